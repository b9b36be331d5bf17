package disk_test

import (
	"bytes"
	"math"
	"math/rand"
	"slices"
	"strings"
	"testing"

	"lintel/api"
	"lintel/check"
	"lintel/deed"
	"lintel/disk"
	"lintel/geom"
	"lintel/image"
	"lintel/pmem"
	"lintel/redo"
	"lintel/tree"
)

var plain = geom.Plain(64)

func on(kind int, a string) tree.Op { return tree.Op{Kind: kind, A: a} }

func put(a string, at int, data string) tree.Op {
	return tree.Op{Kind: 10, A: a, At: at, Data: []byte(data)}
}

func same(a, b tree.Result) bool {
	return a.Err == b.Err && a.Node == b.Node && a.Type == b.Type && a.Links == b.Links && a.Size == b.Size && bytes.Equal(a.Data, b.Data) && slices.Equal(a.Names, b.Names)
}

func made(t *testing.T, g geom.Geom) *pmem.Mem {
	t.Helper()
	m, err := disk.Make(g)
	if err != api.OK {
		t.Fatal(err)
	}
	return m
}

func mount(t *testing.T, m *pmem.Mem) *disk.Disk {
	t.Helper()
	d, err := disk.Mount(m)
	if err != api.OK {
		t.Fatal(err)
	}
	return d
}

func treeOf(t *testing.T, d *disk.Disk) *tree.Tree {
	t.Helper()
	x, err := d.Tree()
	if err != api.OK {
		t.Fatal(err)
	}
	return x
}

func TestMake(t *testing.T) {
	m := made(t, plain)
	want, _ := image.Make(plain)
	if m.Crash(); !slices.Equal(m.Words(), want) {
		t.Error("Make: other words, or not sure")
	}
	for _, g := range []geom.Geom{{}, geom.Plain(63), geom.Plain(1025)} {
		if m, err := disk.Make(g); m != nil || err != api.EARG {
			t.Errorf("Make(%v): %v", g, err)
		}
	}
}

func TestMountRefused(t *testing.T) {
	if d, err := disk.Mount(nil); d != nil || err != api.EARG {
		t.Errorf("Mount of none: %v", err)
	}
	m := made(t, plain)
	m.Crash()
	if d, err := disk.Mount(m); d != nil || err != api.EOFF {
		t.Errorf("Mount without power: %v", err)
	}
	m, _ = pmem.New(64)
	if d, err := disk.Mount(m); d != nil || err != api.EFORM {
		t.Errorf("Mount without a head: %v", err)
	}
	m, _ = pmem.New(8)
	if d, err := disk.Mount(m); d != nil || err != api.EFORM {
		t.Errorf("Mount of eight lines: %v", err)
	}
	if a, b, c := m.Count(); a+b+c != 0 {
		t.Error("what was refused wrote")
	}
	m = made(t, plain)
	m.Store(0, 0)
	if d, err := disk.Mount(m); err != api.OK || d.Geom != plain {
		t.Errorf("Mount by the back head: %v", err)
	}
}

func TestMounted(t *testing.T) {
	m := made(t, plain)
	d := mount(t, m)
	if d.Geom != plain || d.Mem != m || d.Blocks != 64 || d.Lines() != 64 {
		t.Error("what is embedded")
	}
	if a, b, c := m.Count(); a+b+c != 0 {
		t.Error("Mount of an empty one writes")
	}
	if !slices.Equal(d.Image(), m.Words()) || !tree.Same(treeOf(t, d), tree.New(10)) {
		t.Error("Image, Tree")
	}
	d.Image()[0] = 0
	if m.Words()[0] == 0 {
		t.Error("Image shares its words")
	}
}

func TestDo(t *testing.T) {
	d := mount(t, made(t, plain))
	for i, c := range []struct {
		o    tree.Op
		want tree.Result
	}{
		{on(1, "/a"), tree.Result{Node: 3}}, {on(2, "/a/f"), tree.Result{Node: 4}}, {on(2, "/a/f"), tree.Result{Err: api.EEXIST}}, {put("/a/f", 1, "bc"), tree.Result{Node: 4, Size: 3}},
		{tree.Op{Kind: 9, A: "/a/f", N: 9}, tree.Result{Node: 4, Data: []byte("\x00bc")}}, {on(13, "/"), tree.Result{Node: 1, Names: []string{"a", "lost+found"}}}, {on(12, "/a/f"), tree.Result{Node: 4, Type: 1, Links: 1, Size: 3}},
		{on(0, "/"), tree.Result{Err: api.EARG}}, {put("/a/f", 0, strings.Repeat("x", 4096)), tree.Result{Err: api.ENOSPC}},
	} {
		if got := d.Do(0, c.o); !same(got, c.want) {
			t.Errorf("thing %d: %+v", i, got)
		}
		if !check.Fine(d.Image()) {
			t.Errorf("thing %d: not fine", i)
		}
	}
	for _, client := range []int{-1, 1, math.MaxInt} {
		if got := d.Do(client, on(1, "/b")); !same(got, tree.Result{Err: api.EARG}) {
			t.Errorf("client %d: %+v", client, got)
		}
	}
	want := treeOf(t, d)
	d.Crash()
	if got := d.Do(0, on(1, "/b")); !same(got, tree.Result{Err: api.EOFF}) || d.Do(7, on(1, "/b")).Err != api.EOFF {
		t.Errorf("without power: %+v", got)
	}
	if !tree.Same(treeOf(t, d), want) {
		t.Error("Tree without power")
	}
	d.On()
	if again := mount(t, d.Mem); !tree.Same(treeOf(t, again), want) {
		t.Error("Do, Crash, On, Mount: it is not done")
	}
}

func TestBusy(t *testing.T) {
	d := mount(t, made(t, plain))
	p, err := d.Plan(0, on(1, "/a"))
	if err != api.OK || d.Keep(0, p) != api.OK {
		t.Fatal(err)
	}
	was := d.Image()
	if got := d.Do(0, on(4, "/none")); !same(got, tree.Result{Err: api.ENOENT}) {
		t.Errorf("what needs no book: %+v", got)
	}
	if got := d.Do(0, on(1, "/b")); !same(got, tree.Result{Err: api.EBUSY}) {
		t.Errorf("Do with a busy book: %+v", got)
	}
	if _, err := image.Open(was); err != api.OK || !tree.Same(treeOf(t, d), tree.New(10)) {
		t.Error("Do with a busy book changed the tree")
	}
}

func TestSteps(t *testing.T) {
	m := made(t, geom.Geom{Blocks: 100, Nodes: 10, Clients: 2, Book: 16})
	d := mount(t, m)
	d.Do(0, on(2, "/f"))
	p, err := d.Plan(1, put("/f", 0, "abc"))
	if err != api.OK || p.Size != 3 || len(p.Fresh) != 8 || len(p.Done) == 0 {
		t.Fatalf("Plan: %+v, %v", p, err)
	}
	was := d.Image()
	look := func(what string, want []uint64) {
		t.Helper()
		if !slices.Equal(d.Image(), want) {
			t.Errorf("%s: other words", what)
		}
		m.Crash()
		m.On()
		if !slices.Equal(d.Image(), want) {
			t.Errorf("%s: not sure", what)
		}
	}
	look("Plan", was)
	if err := d.Lay(1, p); err != api.OK {
		t.Fatal(err)
	}
	was = redo.Do(was, p.Fresh...)
	look("Lay", was)
	if err := d.Keep(1, p); err != api.OK {
		t.Fatal(err)
	}
	kept := slices.Clone(was)
	copy(kept[8*18:], redo.Put(redo.Rec{Num: 2, L: p.Done}))
	kept[8*17] = 2
	look("Keep", kept)
	if err := d.Keep(1, p); err != api.EBUSY {
		t.Errorf("Keep of a busy one: %v", err)
	}
	if err := d.Done(1, p); err != api.OK {
		t.Fatal(err)
	}
	kept = redo.Do(kept, p.Done...)
	kept[8*17] = 0
	look("Done", kept)
	if !check.Fine(d.Image()) || !slices.Equal(deed.Do(was, p)[8*60:], d.Image()[8*60:]) {
		t.Error("behind it: not fine")
	}
}

func TestStepsRefused(t *testing.T) {
	d := mount(t, made(t, plain))
	p, _ := d.Plan(0, on(1, "/a"))
	was := d.Image()
	for _, client := range []int{-1, 1, math.MinInt} {
		q, err := d.Plan(client, on(1, "/a"))
		if err != api.EARG || !same(q.Result, tree.Result{}) || len(q.Done) != 0 || d.Lay(client, p) != api.EARG || d.Keep(client, p) != api.EARG || d.Done(client, p) != api.EARG || d.Lay(client, deed.Plan{}) != api.EARG {
			t.Errorf("client %d: %v", client, err)
		}
	}
	if d.Lay(0, deed.Plan{}) != api.OK || d.Keep(0, deed.Plan{}) != api.OK || d.Done(0, deed.Plan{}) != api.OK {
		t.Error("steps of no writes")
	}
	for _, at := range []int{-1, 512, math.MaxInt, math.MinInt} {
		bad := deed.Plan{Fresh: []redo.Write{{At: 500, V: 9}, {At: at}}, Done: []redo.Write{{At: 500, V: 9}, {At: at}}}
		if d.Lay(0, bad) != api.EARG || d.Done(0, bad) != api.EARG {
			t.Errorf("a write at %d", at)
		}
	}
	if d.Keep(0, deed.Plan{Done: make([]redo.Write, 401)}) != api.EARG {
		t.Error("Keep of too many")
	}
	if !slices.Equal(d.Image(), was) {
		t.Error("what was refused wrote")
	}
	if a, b, c := d.Count(); a+b+c != 0 {
		t.Error("what was refused stored")
	}
	d.Keep(0, p)
	if d.Done(0, deed.Plan{}); d.Image()[8] == 0 {
		t.Error("Done of none clears the book")
	}
	d.Crash()
	q, err := d.Plan(0, on(1, "/a"))
	if err != api.EOFF || len(q.Done) != 0 || d.Lay(0, deed.Plan{}) != api.EOFF || d.Keep(0, p) != api.EOFF || d.Done(0, deed.Plan{}) != api.EOFF || d.Lay(9, p) != api.EOFF {
		t.Error("without power")
	}
}

// record writes a record into a book, by hand.
func record(l []uint64, book int, r redo.Rec) {
	l[8*book] = r.Num
	copy(l[8*book+8:], redo.Put(r))
}

func TestRecover(t *testing.T) {
	g := geom.Geom{Blocks: 100, Nodes: 10, Clients: 3, Book: 16} // books at 1, 17, 33; bits at 49
	l, _ := image.Make(g)
	record(l, 1, redo.Rec{Num: 9, L: []redo.Write{{At: 8 * 90, V: 1}, {At: 8 * 91, V: 1}}})
	record(l, 17, redo.Rec{Num: 7, L: []redo.Write{{At: 8 * 90, V: 2}, {At: 8 * 92, V: 2}, {At: 8 * 93, V: 2}, {At: 8 * 93, V: 3}}})
	record(l, 33, redo.Rec{Num: 9, L: []redo.Write{{At: 8 * 91, V: 4},
		{At: 0, V: 66}, {At: 7, V: 66}, {At: 8, V: 66}, {At: 8*49 - 1, V: 66}, {At: 8 * 99, V: 66}, {At: 799, V: 66}, {At: 800, V: 66}, {At: 1 << 20, V: 66}, // passed over
		{At: 8 * 49, V: 5}, {At: 8*99 - 1, V: 6}}})
	want := slices.Clone(l)
	for at, v := range map[int]uint64{8: 0, 8 * 17: 0, 8 * 33: 0, 8 * 90: 1, 8 * 91: 4, 8 * 92: 2, 8 * 93: 3, 8 * 49: 5, 8*99 - 1: 6} {
		want[at] = v
	}
	was := slices.Clone(l)
	got, err := disk.Recover(l)
	if err != api.OK || !slices.Equal(got, want) || !slices.Equal(l, was) {
		t.Errorf("Recover: %v", err)
	}
	m, _ := pmem.From(l...)
	mount(t, m)
	if m.Crash(); !slices.Equal(m.Words(), want) {
		t.Error("Mount: other words than Recover, or not sure")
	}
	if again, err := disk.Recover(got); err != api.OK || !slices.Equal(again, got) {
		t.Error("Recover of what is recovered")
	}
	for i, bad := range [][]uint64{nil, make([]uint64, 800), l[:799], l[:792], make([]uint64, 9000)} {
		if got, err := disk.Recover(bad); err != api.EFORM || len(got) != 0 {
			t.Errorf("Recover of words %d: %v", i, err)
		}
	}
}

func TestRecoverSpoilt(t *testing.T) {
	l, _ := image.Make(plain)
	l[8] = 5 // no record stands behind it
	want := slices.Clone(l)
	want[8] = 0
	if got, err := disk.Recover(l); err != api.OK || !slices.Equal(got, want) {
		t.Errorf("a mark alone: %v", err)
	}
	record(l, 1, redo.Rec{Num: 6, L: []redo.Write{{At: 8 * 50, V: 1}}})
	l[8] = 7
	want = slices.Clone(l)
	want[8] = 0
	if got, err := disk.Recover(l); err != api.OK || !slices.Equal(got, want) {
		t.Errorf("another mark: %v", err)
	}
	two, _ := image.Make(geom.Geom{Blocks: 100, Nodes: 10, Clients: 3, Book: 16})
	want = slices.Clone(two)
	two[8], two[8*17], two[8*33] = 5, 6, 7
	if got, err := disk.Recover(two); err != api.OK || !slices.Equal(got, want) {
		t.Errorf("three marks alone: %v", err)
	}
	l[0] = 0 // the back head counts
	record(l, 1, redo.Rec{Num: 6, L: []redo.Write{{At: 8 * 50, V: 1}}})
	want = slices.Clone(l)
	want[8], want[8*50] = 0, 1
	if got, err := disk.Recover(l); err != api.OK || !slices.Equal(got, want) {
		t.Errorf("by the back head: %v", err)
	}
}

// TestRecoverFalls: however often a mount falls, the words come out as Recover has them.
func TestRecoverFalls(t *testing.T) {
	g := geom.Geom{Blocks: 100, Nodes: 10, Clients: 3, Book: 16}
	l, _ := image.Make(g)
	record(l, 1, redo.Rec{Num: 3, L: []redo.Write{{At: 8 * 90, V: 3}, {At: 8 * 91, V: 3}}})
	record(l, 17, redo.Rec{Num: 1, L: []redo.Write{{At: 8 * 90, V: 1}, {At: 8*91 + 1, V: 1}, {At: 8*90 + 1, V: 1}}})
	record(l, 33, redo.Rec{Num: 2, L: []redo.Write{{At: 8 * 90, V: 2}, {At: 8 * 91, V: 2}, {At: 8*90 + 1, V: 2}}})
	want, _ := disk.Recover(l)
	for _, keep := range [][]int{nil, {9, 9, 9}, {1, 0, 1}, {0, 1}} {
		for gap := 1; gap < 30; gap++ {
			m, _ := pmem.From(l...)
			var err api.Errno
			for calls := gap; calls < 200; calls += gap {
				m.Fuse(calls, keep...)
				if _, err = disk.Mount(m); err == api.OK {
					break
				}
				m.On()
			}
			if !slices.Equal(m.Words(), want) || err != api.OK {
				t.Fatalf("falls each %d calls, keep %v: other words", gap, keep)
			}
		}
	}
}

var script = []tree.Op{
	on(1, "/a"), on(2, "/a/f"), put("/a/f", 0, strings.Repeat("abc", 50)), {Kind: 3, A: "/a/f", B: "/g"}, {Kind: 7, A: "/l", Data: []byte("a/f")}, put("/l", 3, "xyz"), on(2, "/a/h"),
	{Kind: 6, A: "/a/h", B: "/a/f"}, on(12, "/g"), {Kind: 11, A: "/g", N: 20}, {Kind: 6, A: "/a", B: "/b"}, on(4, "/b/f"), on(5, "/b"), on(4, "/l"), on(4, "/g"),
}

func TestFalls(t *testing.T) {
	for _, keep := range [][]int{nil, {9, 9, 9, 9, 9, 9}, {1, 1, 1, 1, 1, 1}, {0, 3, 0, 3}, {2, 0, 5}} {
		for calls := 1; ; calls++ {
			if fall(t, calls, keep) {
				break
			}
		}
	}
}

// fall plays the script with a fuse, mounts with fuses too, and looks; it tells whether the fuse lasted to the end.
func fall(t *testing.T, calls int, keep []int) bool {
	t.Helper()
	m := made(t, plain)
	d := mount(t, m)
	model := tree.New(10)
	m.Fuse(calls, keep...)
	after := model
	for _, o := range script {
		after = model.Clone()
		want := after.Do(o)
		got := d.Do(0, o)
		if got.Err == api.EOFF {
			break
		}
		if !same(got, want) {
			t.Fatalf("%+v: %+v, not %+v", o, got, want)
		}
		model = after
	}
	lasted := !m.Off()
	for again := 1; ; again++ {
		m.Crash(keep...)
		m.On()
		m.Fuse(again*3, keep...)
		var err api.Errno
		if d, err = disk.Mount(m); err == api.OK {
			break
		}
	}
	m.Fuse(0)
	if !check.Fine(m.Words()) {
		t.Fatalf("a fall behind %d calls, keep %v: not fine", calls, keep)
	}
	if got := treeOf(t, d); !tree.Same(got, model) && !tree.Same(got, after) {
		t.Fatalf("a fall behind %d calls, keep %v: another tree", calls, keep)
	}
	if r := d.Do(0, on(2, "/last")); r.Err != api.OK || !check.Fine(m.Words()) {
		t.Fatalf("a fall behind %d calls: then %+v", calls, r)
	}
	return lasted
}

func TestManyClients(t *testing.T) {
	g := geom.Geom{Blocks: 200, Nodes: 20, Clients: 4, Book: 16}
	d := mount(t, made(t, g))
	model := tree.New(20)
	r := rand.New(rand.NewSource(3))
	for i := range 200 {
		name := "/" + string(rune('a'+r.Intn(6)))
		o := tree.Op{Kind: 1 + r.Intn(13), A: name, B: name + "/x", N: 50, At: r.Intn(90), Data: bytes.Repeat([]byte("q"), r.Intn(90))}
		was := model.Clone()
		want := model.Do(o)
		got := d.Do(r.Intn(4), o)
		if got.Err == api.ENOSPC {
			model, want = was, got
		}
		if !same(got, want) || !tree.Same(treeOf(t, d), model) || !check.Fine(d.Image()) {
			t.Fatalf("thing %d, %+v: %+v, not %+v", i, o, got, want)
		}
		if i%17 == 0 {
			d.Crash()
			d.On()
			d = mount(t, d.Mem)
		}
	}
}
