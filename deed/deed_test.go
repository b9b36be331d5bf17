package deed_test

import (
	"bytes"
	"math"
	"math/rand"
	"slices"
	"strconv"
	"strings"
	"testing"

	"lintel/api"
	"lintel/bits"
	"lintel/check"
	"lintel/deed"
	"lintel/geom"
	"lintel/image"
	"lintel/node"
	"lintel/pool"
	"lintel/redo"
	"lintel/slot"
	"lintel/tree"
)

var plain = geom.Plain(64)

func on(kind int, a string) tree.Op { return tree.Op{Kind: kind, A: a} }

func put(a string, at int, data string) tree.Op {
	return tree.Op{Kind: 10, A: a, At: at, Data: []byte(data)}
}

func made(t *testing.T, g geom.Geom) []uint64 {
	t.Helper()
	l, err := image.Make(g)
	if err != api.OK {
		t.Fatal(err)
	}
	return l
}

func treeOf(t *testing.T, l []uint64) *tree.Tree {
	t.Helper()
	x, err := image.Open(l)
	if err != api.OK {
		t.Fatal(err)
	}
	out, err := x.Tree()
	if err != api.OK {
		t.Fatal(err)
	}
	return out
}

func same(a, b tree.Result) bool {
	return a.Err == b.Err && a.Node == b.Node && a.Type == b.Type && a.Links == b.Links && a.Size == b.Size && bytes.Equal(a.Data, b.Data) && slices.Equal(a.Names, b.Names)
}

// needs tells how many blocks a thing that is told well takes: those of its new bytes, and one more than the slots of a directory that got a name.
func needs(l []uint64, was, now *tree.Tree) int {
	x, _ := image.Open(l)
	before := map[int]tree.Part{}
	for _, p := range was.Parts() {
		before[p.Node] = p
	}
	n := 0
	for _, p := range now.Parts() {
		if !bytes.Equal(p.Data, before[p.Node].Data) {
			n += node.Needs(node.Node{Type: p.Type, Size: len(p.Data)})
		}
		for _, name := range p.Names {
			if !slices.Contains(before[p.Node].Names, name) {
				n += len(x.Slots(p.Node)) + 1
				break
			}
		}
	}
	return n
}

// roomy tells whether the document says that there is room.
func roomy(t *testing.T, l []uint64, client int, was, now *tree.Tree) bool {
	t.Helper()
	x, _ := image.Open(l)
	p, err := pool.New(x.Geom, x.Bits())
	if err != api.OK {
		t.Fatal(err)
	}
	_, err = p.Take(client, needs(l, was, now), 1)
	return err == api.OK
}

// step plans a thing, holds the plan against the tree's answer, and tells the words behind it.
func step(t *testing.T, l []uint64, client int, o tree.Op) []uint64 {
	t.Helper()
	given := slices.Clone(l)
	p := deed.Of(l, client, o)
	if !slices.Equal(l, given) {
		t.Fatal("Of writes")
	}
	was := treeOf(t, l)
	now := was.Clone()
	want := now.Do(o)
	if p.Err == api.ENOSPC && want.Err != api.ENOSPC {
		if roomy(t, l, client, was, now) {
			t.Errorf("%+v: ENOSPC, but there is room", o)
		}
		want, now = tree.Result{Err: api.ENOSPC}, was
	}
	if !same(p.Result, want) {
		t.Fatalf("%+v: %+v, not %+v", o, p.Result, want)
	}
	out := deed.Do(l, p)
	if !slices.Equal(out, redo.Do(redo.Do(l, p.Fresh...), p.Done...)) {
		t.Fatal("Do is other than Fresh and Done")
	}
	if found := check.Run(out); len(found) != 0 {
		t.Fatalf("%+v: not fine: %v", o, found)
	}
	if !tree.Same(treeOf(t, out), now) {
		t.Fatalf("%+v: another tree", o)
	}
	if tree.Same(was, now) && len(p.Fresh)+len(p.Done) != 0 {
		t.Errorf("%+v: %d, %d writes where nothing is changed", o, len(p.Fresh), len(p.Done))
	}
	writesWell(t, l, p)
	return out
}

// writesWell: Fresh are free blocks of the words alone, Done are at most 58 words.
func writesWell(t *testing.T, l []uint64, p deed.Plan) {
	t.Helper()
	x, _ := image.Open(l)
	for _, w := range p.Fresh {
		if bits.Has(x.Bits(), w.At/8) {
			t.Fatalf("block %d is not free", w.At/8)
		}
	}
	if len(p.Done) > 58 {
		t.Errorf("%d words are Done", len(p.Done))
	}
	fresh := redo.Do(l, p.Fresh...)
	if !check.Fine(fresh) || !tree.Same(treeOf(t, fresh), treeOf(t, l)) {
		t.Error("with Fresh alone another tree, or none")
	}
}

func TestExamples(t *testing.T) {
	l := made(t, plain)
	if p := deed.Of(l, 0, on(1, "/a")); p.Node != 3 || p.Err != api.OK || len(p.Done) == 0 {
		t.Errorf("mkdir /a: %+v", p)
	}
	for _, o := range []tree.Op{on(1, "/a"), on(2, "/a/f"), put("/a/f", 5, "hello"), {Kind: 3, A: "/a/f", B: "/g"}, {Kind: 7, A: "/l", Data: []byte("a/f")}, {Kind: 9, A: "/l", N: 99}, {Kind: 6, A: "/g", B: "/a/h"},
		put("/l", 5, "hello"), put("/l", 0, ""), {Kind: 11, A: "/a/f", N: 200}, {Kind: 11, A: "/a/f", N: 3}, on(12, "/a"), on(13, "/"), on(8, "/l"), on(4, "/l"), on(5, "/a"), on(4, "/a/f"), on(4, "/a/h"), on(5, "/a"), on(99, "/"), on(4, "")} {
		l = step(t, l, 0, o)
	}
	if !tree.Same(treeOf(t, l), tree.New(10)) {
		t.Error("not empty behind it all")
	}
}

func TestRefused(t *testing.T) {
	l := made(t, plain)
	for _, client := range []int{-1, 1, math.MaxInt, math.MinInt} {
		if p := deed.Of(l, client, on(1, "/a")); !same(p.Result, tree.Result{Err: api.EARG}) || len(p.Fresh)+len(p.Done) != 0 {
			t.Errorf("client %d: %+v", client, p)
		}
	}
	for _, client := range []int{-1, 1} {
		for _, o := range []tree.Op{on(13, "/"), on(4, "/none"), on(99, "/")} { // what would write nothing, too
			if p := deed.Of(l, client, o); !same(p.Result, tree.Result{Err: api.EARG}) {
				t.Errorf("client %d: %+v", client, p)
			}
		}
	}
	two := made(t, geom.Geom{Blocks: 100, Nodes: 10, Clients: 2, Book: 16})
	if p := deed.Of(two, 1, on(1, "/a")); p.Err != api.OK {
		t.Errorf("client 1 of two: %+v", p)
	}
}

func TestOddWords(t *testing.T) {
	r := rand.New(rand.NewSource(5))
	ops := []tree.Op{on(1, "/a"), on(2, "/a/f"), put("/a/f", 5, "hello"), on(13, "/"), on(4, "/f"), on(5, "/a")}
	for i, l := range [][]uint64{nil, make([]uint64, 7), make([]uint64, 512), made(t, plain)[:504]} {
		if p := deed.Of(l, 0, ops[0]); p.Err == api.OK || p.Node != 0 || len(p.Fresh)+len(p.Done) != 0 {
			t.Errorf("words %d: %+v", i, p)
		}
	}
	l, _ := deed.All(made(t, plain), 0, ops[:3]...)
	for range 300 {
		bad := slices.Clone(l)
		for range 1 + r.Intn(4) {
			bad[r.Intn(len(bad))] ^= 1 << r.Intn(64)
		}
		for _, o := range ops {
			bad = deed.Do(bad, deed.Of(bad, 0, o)) // whatever it tells, it does not panic
		}
	}
}

func TestAll(t *testing.T) {
	l := made(t, plain)
	was := slices.Clone(l)
	out, told := deed.All(l, 0, on(1, "/a"), on(2, "/a/f"), on(2, "/a/f"), put("/a/f", 0, "abc"), tree.Op{Kind: 9, A: "/a/f", N: 9})
	want := []tree.Result{{Node: 3}, {Node: 4}, {Err: api.EEXIST}, {Node: 4, Size: 3}, {Node: 4, Data: []byte("abc")}}
	if !slices.EqualFunc(told, want, same) || !check.Fine(out) || !slices.Equal(l, was) {
		t.Errorf("All: %+v", told)
	}
	step1 := l
	for _, o := range []tree.Op{on(1, "/a"), on(2, "/a/f"), on(2, "/a/f"), put("/a/f", 0, "abc")} {
		step1 = step(t, step1, 0, o)
	}
	if !slices.Equal(out, step1) {
		t.Error("All is other than one behind the other")
	}
	out, told = deed.All(l, 0)
	if len(told) != 0 || !slices.Equal(out, l) {
		t.Errorf("All of none: %+v", told)
	}
	if out[5] = 9; l[5] == 9 {
		t.Error("All shares its words")
	}
	if _, told := deed.All(l, 7, on(1, "/a")); len(told) != 1 || told[0].Err != api.EARG {
		t.Errorf("All of no client: %+v", told)
	}
}

func TestWritten(t *testing.T) {
	l := made(t, plain)
	for _, o := range []tree.Op{on(2, "/f"), put("/f", 0, "abc")} {
		l = step(t, l, 0, o)
	}
	for _, o := range []tree.Op{put("/f", 0, "abc"), put("/f", 1, "b"), put("/f", 9, ""), {Kind: 11, A: "/f", N: 3}, {Kind: 6, A: "/f", B: "/f"}, on(12, "/f")} {
		if p := deed.Of(l, 0, o); p.Err != api.OK || p.Node != 3 || len(p.Fresh)+len(p.Done) != 0 {
			t.Errorf("%+v: %+v", o, p)
		}
	}
}

func TestNotFine(t *testing.T) {
	for what, c := range map[string]struct {
		at  int
		v   uint64
		err api.Errno // of what writes
	}{
		"a mark":       {8, 7, api.OK}, // a book in use is another's: things are planned still
		"a phase":      {6, 7, api.OK},
		"a first head": {0, 0, api.OK},
		"bits":         {8 * 21, math.MaxUint64 - 1, api.EFORM}, // a block in use might be given out
	} {
		l := made(t, plain)
		l[c.at] = c.v
		if p := deed.Of(l, 0, on(1, "/a")); p.Err != c.err || c.err == api.OK && p.Node != 3 || c.err != api.OK && len(p.Done) != 0 {
			t.Errorf("%s: %+v", what, p)
		}
		if p := deed.Of(l, 0, on(12, "/")); p.Err != api.OK || p.Node != 1 {
			t.Errorf("%s: %+v", what, p)
		}
	}
}

func TestManySlots(t *testing.T) {
	l := made(t, geom.Geom{Blocks: 300, Nodes: 10, Clients: 1, Book: 16})
	l = step(t, l, 0, on(1, "/d"))
	l = step(t, l, 0, on(2, "/d/f"))
	for i := range 60 {
		l = step(t, l, 0, tree.Op{Kind: 3, A: "/d/f", B: "/d/" + strconv.Itoa(i)})
		l = step(t, l, 0, on(2, "/x"))
		l = step(t, l, 0, put("/x", 0, "x"))
		if i%3 == 0 {
			l = step(t, l, 0, on(4, "/x")) // gaps
		} else {
			l = step(t, l, 0, tree.Op{Kind: 6, A: "/x", B: "/y" + strconv.Itoa(i%3)})
		}
	}
	x, _ := image.Open(l)
	if n := len(x.Slots(3)); n != 61 {
		t.Errorf("%d slots for 61 names", n)
	}
	for i := range 60 {
		l = step(t, l, 0, on(4, "/d/"+strconv.Itoa(i)))
	}
	if x, _ = image.Open(l); len(x.Slots(3)) != 61 {
		t.Error("slots are gone")
	}
	l = step(t, l, 0, tree.Op{Kind: 3, A: "/d/f", B: "/d/again"})
	if x, _ = image.Open(l); len(x.Slots(3)) != 61 {
		t.Error("a free slot is not used")
	}
}

func TestFreePlaces(t *testing.T) {
	l := made(t, plain)
	for _, name := range []string{"/a", "/b", "/c"} {
		l = step(t, l, 0, on(2, name))
	}
	for place, name := range []string{"/a", "/b", "/c"} {
		l = step(t, l, 0, on(4, name))
		l = step(t, l, 0, on(2, name+"x"))
		if x, _ := image.Open(l); len(x.Slots(1)) != 3 || x.Slots(1)[place].Name != name[1:]+"x" {
			t.Errorf("a free place %d is not used: %v", place, x.Slots(1))
		}
		l = step(t, l, 0, tree.Op{Kind: 6, A: name + "x", B: name})
	}
	if x, _ := image.Open(l); len(x.Slots(1)) != 3 {
		t.Errorf("a new name of an old one takes a new slot: %v", x.Slots(1))
	}
}

func TestAllNodes(t *testing.T) {
	l := made(t, geom.Geom{Blocks: 300, Nodes: 64, Clients: 1, Book: 16})
	way := ""
	for range 31 {
		l = step(t, l, 0, on(2, way+"/f"))
		l = step(t, l, 0, on(1, way+"/d"))
		way += "/d"
	}
	l = step(t, l, 0, on(2, way+"/f"))
	l = step(t, l, 0, put(way[2:]+"/f", 0, "x"))
	if p := deed.Of(l, 0, on(12, way)); p.Node != 64 {
		t.Errorf("the last node: %+v", p)
	}
}

func TestFullSlot(t *testing.T) {
	// One block of data: Root's only slot takes it, and no more goes in.
	l := made(t, geom.Geom{Blocks: 64, Nodes: 20, Clients: 1, Book: 20})
	l = step(t, l, 0, on(2, "/f"))
	for _, o := range []tree.Op{on(2, "/g"), on(1, "/g"), {Kind: 3, A: "/f", B: "/g"}, put("/f", 0, "x"), {Kind: 11, A: "/f", N: 1}, {Kind: 7, A: "/l", Data: []byte("x")}} {
		if p := deed.Of(l, 0, o); !same(p.Result, tree.Result{Err: api.ENOSPC}) || len(p.Fresh)+len(p.Done) != 0 {
			t.Errorf("%+v in a full one: %+v", o, p)
		}
	}
	l = step(t, l, 0, on(4, "/f"))
	l = step(t, l, 0, on(1, "/g"))
	l = step(t, l, 0, tree.Op{Kind: 6, A: "/g", B: "/h"})
	l = step(t, l, 0, on(5, "/h"))
	if !tree.Same(treeOf(t, l), tree.New(20)) {
		t.Error("not empty behind it all")
	}
}

var words = []string{"a", "b", "c", "d", "e"}

func anyWay(r *rand.Rand) string {
	s := "/" + words[r.Intn(5)]
	for r.Intn(3) == 0 {
		s += "/" + words[r.Intn(5)]
	}
	if r.Intn(30) == 0 {
		s = "/lost+found/#" + strconv.Itoa(r.Intn(9))
	}
	return s
}

func anyOp(r *rand.Rand) tree.Op {
	o := tree.Op{Kind: 1 + r.Intn(13), A: anyWay(r), B: anyWay(r), At: r.Intn(200), N: r.Intn(500)}
	switch o.Kind {
	case 5:
		if r.Intn(2) == 0 {
			o.Kind = 2
		}
	case 7:
		o.Data = []byte(anyWay(r))
		if r.Intn(4) == 0 {
			o.Data = bytes.Repeat([]byte("../"), 60)
		}
	case 10:
		o.Data = bytes.Repeat([]byte{byte(r.Intn(256))}, r.Intn(400))
	}
	return o
}

func TestAnything(t *testing.T) {
	counts := map[api.Errno]int{}
	for seed := range 12 {
		r := rand.New(rand.NewSource(int64(seed)))
		g := []geom.Geom{plain, {Blocks: 90, Nodes: 12, Clients: 3, Book: 16}, {Blocks: 130, Nodes: 20, Clients: 2, Book: 20}, {Blocks: 1024, Nodes: 64, Clients: 8, Book: 16}}[seed%4]
		l := made(t, g)
		for range 250 {
			o := anyOp(r)
			client := r.Intn(g.Clients)
			counts[deed.Of(l, client, o).Err]++
			l = step(t, l, client, o)
		}
	}
	for _, err := range []api.Errno{api.OK, api.ENOSPC, api.ENOENT, api.EEXIST, api.ENOTDIR, api.EISDIR, api.ENOTEMPTY} {
		if counts[err] == 0 {
			t.Errorf("no thing was told %v", err)
		}
	}
}

func TestDoneAtMost(t *testing.T) {
	// Many runs in many words of the bits: a file of four far runs is written over, and renamed over.
	g := geom.Geom{Blocks: 1024, Nodes: 64, Clients: 1, Book: 16}
	l := made(t, g)
	from, n := geom.Data(g)
	long := strings.Repeat("n", 40)
	l = step(t, l, 0, on(2, "/"+long))
	l = step(t, l, 0, put("/"+long, 0, strings.Repeat("x", 4096)))
	l = step(t, l, 0, on(2, "/"+long[1:]))
	l = step(t, l, 0, put("/"+long[1:], 0, strings.Repeat("y", 4096)))
	l = step(t, l, 0, on(1, "/d"))
	l = step(t, l, 0, tree.Op{Kind: 6, A: "/" + long, B: "/d/" + long})
	l = step(t, l, 0, tree.Op{Kind: 6, A: "/" + long[1:], B: "/d/" + long})
	l = step(t, l, 0, put("/d/"+long, 4000, strings.Repeat("z", 96)))
	if x, _ := image.Open(l); slices.Contains(x.Slots(1), slot.Slot{Node: 3, Name: long}) || from+n > 1024 {
		t.Error("renamed, and there still")
	}
}
