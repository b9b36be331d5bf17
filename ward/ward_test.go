package ward_test

import (
	"bytes"
	"math"
	"math/rand"
	"slices"
	"strings"
	"testing"

	"lintel/api"
	"lintel/check"
	"lintel/cure"
	"lintel/geom"
	"lintel/image"
	"lintel/mend"
	"lintel/tree"
	"lintel/ward"
)

var plain = geom.Plain(64)

func op(kind int, a string) tree.Op { return tree.Op{Kind: kind, A: a} }

func do(o tree.Op) ward.Act { return ward.Act{O: o} }

func crash(keep ...int) ward.Act { return ward.Act{Op: 1, Keep: keep} }

func fuse(at int, keep ...int) ward.Act { return ward.Act{Op: 3, At: at, Keep: keep} }

func spoil(at int, v uint64) ward.Act { return ward.Act{Op: 4, At: at, V: v} }

var (
	on   = ward.Act{Op: 2}
	heal = ward.Act{Op: 5}
)

func same(a, b tree.Result) bool {
	return a.Err == b.Err && a.Node == b.Node && a.Type == b.Type && a.Links == b.Links && a.Size == b.Size && bytes.Equal(a.Data, b.Data) && slices.Equal(a.Names, b.Names)
}

func begin(t *testing.T) *ward.Ward {
	t.Helper()
	w, err := ward.New(plain)
	if err != api.OK {
		t.Fatal(err)
	}
	return w
}

// play lets things happen, each with the error that it should tell.
func play(t *testing.T, w *ward.Ward, want api.Errno, l ...ward.Act) {
	t.Helper()
	for i, a := range l {
		if err := w.Do(a); err != want {
			t.Fatalf("act %d, %+v: %v, not %v", i, a, err, want)
		}
	}
}

func treeIs(t *testing.T, w *ward.Ward, want *tree.Tree) {
	t.Helper()
	got, err := w.Tree()
	if err != api.OK || !tree.Same(got, want) || len(w.Findings()) != 0 {
		t.Fatalf("Tree: %v, or another one; %v", err, w.Findings())
	}
}

func TestNew(t *testing.T) {
	for _, g := range []geom.Geom{{}, geom.Plain(63), geom.Plain(1025)} {
		if w, err := ward.New(g); w != nil || err != api.EARG {
			t.Errorf("New(%v): %v", g, err)
		}
	}
	w := begin(t)
	want, _ := image.Make(plain)
	if !w.Up() || !slices.Equal(w.Image(), want) || !same(w.Last(), tree.Result{}) || len(w.Findings()) != 0 {
		t.Error("a new one")
	}
	treeIs(t, w, tree.New(10))
	w.Image()[0] = 7
	if w.Image()[0] == 7 {
		t.Error("Image shares its words")
	}
}

func TestDo(t *testing.T) {
	w := begin(t)
	model := tree.New(10)
	for _, o := range []tree.Op{op(1, "/a"), op(2, "/a/f"), {Kind: 10, A: "/a/f", Data: []byte("abc")}, {Kind: 9, A: "/a/f", N: 9}, op(13, "/"), op(1, "/a"), op(99, "/"), op(4, "/none"), op(12, "/a/f")} {
		want := model.Do(o)
		if err := w.Do(do(o)); err != want.Err || !same(w.Last(), want) {
			t.Errorf("%+v: %v, %+v, not %+v", o, err, w.Last(), want)
		}
	}
	treeIs(t, w, model)
	play(t, w, api.EARG, ward.Act{Client: 1, O: op(13, "/")}, ward.Act{Client: -1, O: op(13, "/")})
	if !same(w.Last(), tree.Result{Err: api.EARG}) {
		t.Errorf("Last of no client: %+v", w.Last())
	}
	play(t, w, api.OK, do(tree.Op{Kind: 9, A: "/a/f", N: 9}))
	w.Last().Data[0] = 'z'
	if string(w.Last().Data) != "abc" {
		t.Error("Last shares its memory")
	}
	play(t, w, api.OK, fuse(0), crash(), on)
	if string(w.Last().Data) != "abc" {
		t.Errorf("Last behind other acts: %+v", w.Last())
	}
}

func TestOps(t *testing.T) {
	w := begin(t)
	for _, n := range []int{-1, 6, math.MaxInt, math.MinInt} {
		play(t, w, api.EARG, ward.Act{Op: n})
	}
	play(t, w, api.OK, do(op(1, "/a")), crash(), on)
	model := tree.New(10)
	model.Do(op(1, "/a"))
	treeIs(t, w, model)
	play(t, w, api.OK, on, on) // with power: nothing
	play(t, w, api.OK, crash(1))
	if w.Up() {
		t.Error("power behind a crash")
	}
	play(t, w, api.EOFF, crash(), fuse(1), spoil(0, 0), heal, spoil(-1, 0), do(op(13, "/")))
	play(t, w, api.EARG, ward.Act{Op: 6})
	if !same(w.Last(), tree.Result{Err: api.EOFF}) {
		t.Errorf("Last without power: %+v", w.Last())
	}
	if x, err := w.Tree(); x != nil || err != api.EOFF {
		t.Errorf("Tree without power: %v", err)
	}
	if len(w.Image()) != 512 || len(w.Findings()) != 0 {
		t.Error("Image, Findings without power")
	}
	play(t, w, api.OK, on, do(op(1, "/b")))
	model.Do(op(1, "/b"))
	treeIs(t, w, model)
}

func TestFuse(t *testing.T) {
	for calls := 1; ; calls++ {
		w := begin(t)
		play(t, w, api.OK, do(op(2, "/f")), fuse(calls, 1, 9, 0, 2))
		before, _ := w.Tree()
		o := tree.Op{Kind: 10, A: "/f", Data: []byte(strings.Repeat("x", 70))}
		after := before.Clone()
		want := after.Do(o)
		if err := w.Do(do(o)); err == api.OK {
			if !same(w.Last(), want) {
				t.Errorf("Last: %+v", w.Last())
			}
			treeIs(t, w, after)
			return
		}
		if w.Up() || !same(w.Last(), tree.Result{Err: api.EOFF}) {
			t.Fatalf("a fuse of %d: %+v", calls, w.Last())
		}
		play(t, w, api.OK, on)
		got, err := w.Tree()
		if err != api.OK || len(w.Findings()) != 0 || !tree.Same(got, before) && !tree.Same(got, after) {
			t.Fatalf("a fuse of %d: %v, %v", calls, err, w.Findings())
		}
	}
}

func TestDamage(t *testing.T) {
	w := begin(t)
	play(t, w, api.OK, do(op(1, "/a")))
	model, _ := w.Tree()
	play(t, w, api.EARG, spoil(-1, 1), spoil(512, 1), spoil(math.MaxInt, 1), spoil(math.MinInt, 1))
	play(t, w, api.OK, do(op(13, "/"))) // mounted still
	play(t, w, api.OK, spoil(6, 5))
	if w.Image()[6] != 5 || !slices.Equal(w.Findings(), []check.Finding{{Pass: 0, Kind: 5}}) {
		t.Errorf("damage: %v", w.Findings())
	}
	play(t, w, api.EFORM, do(op(13, "/")))
	if !same(w.Last(), tree.Result{Err: api.EFORM}) {
		t.Errorf("Last behind damage: %+v", w.Last())
	}
	play(t, w, api.OK, on)
	play(t, w, api.EFORM, do(op(13, "/"))) // on does nothing with power
	play(t, w, api.OK, crash())
	if w.Image()[6] != 5 {
		t.Error("damage is not sure")
	}
	play(t, w, api.OK, on, do(op(13, "/a")), do(op(13, "/")), heal, do(op(1, "/b")))
	model.Do(op(1, "/b"))
	treeIs(t, w, model)
}

func TestHeadless(t *testing.T) {
	w := begin(t)
	play(t, w, api.OK, spoil(0, 0), heal, do(op(1, "/a")), spoil(0, 0), spoil(511, 0))
	play(t, w, api.EFORM, heal, do(op(1, "/b")))
	if x, err := w.Tree(); x != nil || err != api.EFORM {
		t.Errorf("Tree without a head: %v", err)
	}
	play(t, w, api.OK, crash())
	play(t, w, api.EFORM, on) // a mount that is refused
	if !w.Up() || !slices.Equal(w.Findings(), []check.Finding{{Pass: 0, Kind: 2}}) {
		t.Errorf("without a head: %v", w.Findings())
	}
	play(t, w, api.EFORM, do(op(1, "/b")))
	play(t, w, api.OK, spoil(0, 0x4c494e54454c0001))
	play(t, w, api.EFORM, do(op(1, "/b")))
	play(t, w, api.OK, heal, do(op(1, "/b")))
}

func TestMendFalls(t *testing.T) {
	for calls := 1; ; calls++ {
		w := begin(t)
		play(t, w, api.OK, do(op(1, "/a")), do(op(2, "/a/f")), spoil(8*22+1, 99), spoil(6, 1), spoil(8*21, 7))
		want, _ := mend.Goal(w.Image())
		play(t, w, api.OK, fuse(calls, 1, 0, 9))
		err := w.Do(heal)
		if err == api.EOFF {
			if w.Up() {
				t.Fatal("power still")
			}
			play(t, w, api.OK, on, heal)
		} else if err != api.OK {
			t.Fatal(err)
		}
		if got := w.Image(); !slices.Equal(got[8*21:], want[8*21:]) || got[8] != 0 || len(w.Findings()) != 0 {
			t.Fatalf("a fall at call %d of mending: %v", calls, w.Findings())
		}
		play(t, w, api.OK, fuse(0), do(op(13, "/lost+found")))
		if !slices.Equal(w.Last().Names, []string{"#3"}) {
			t.Errorf("Lost: %+v", w.Last())
		}
		if err == api.OK {
			return
		}
	}
}

func TestSpoilFalls(t *testing.T) {
	for calls := 1; calls <= 3; calls++ {
		w := begin(t)
		play(t, w, api.OK, fuse(calls))
		play(t, w, api.EOFF, spoil(6, 5))
		play(t, w, api.OK, on, do(op(1, "/a")))
		if w.Image()[6] != 0 {
			t.Errorf("a fall at call %d of damage: it is done", calls)
		}
	}
}

// TestAnything: things, falls, damages and mendings, at random. T1 to T4: the tree is that of what was told, or of one thing more; behind a mending all is fine, and whole files are kept.
func TestAnything(t *testing.T) {
	for seed := range 30 {
		r := rand.New(rand.NewSource(int64(seed)))
		w := begin(t)
		model := tree.New(10)
		for range 120 {
			switch r.Intn(12) {
			case 0:
				w.Do(crash(r.Intn(9), r.Intn(9)))
				play(t, w, api.OK, on)
				treeIs(t, w, model)
			case 1:
				w.Do(fuse(1+r.Intn(60), r.Intn(9), r.Intn(9), r.Intn(9)))
			case 2:
				model = damaged(t, r, w)
			default:
				model = anything(t, r, w, model)
			}
		}
	}
}

func anything(t *testing.T, r *rand.Rand, w *ward.Ward, model *tree.Tree) *tree.Tree {
	t.Helper()
	name := func() string { return "/" + string(rune('a'+r.Intn(4))) }
	o := tree.Op{Kind: 1 + r.Intn(13), A: name(), B: name(), N: r.Intn(99), At: r.Intn(99), Data: bytes.Repeat([]byte("y"), r.Intn(99))}
	after := model.Clone()
	want := after.Do(o)
	err := w.Do(do(o))
	switch {
	case err == api.ENOSPC:
		treeIs(t, w, model)
		return model
	case err == api.EOFF:
		play(t, w, api.OK, on)
		if got, err := w.Tree(); err != api.OK || !tree.Same(got, model) {
			treeIs(t, w, after)
			return after
		}
		treeIs(t, w, model)
		return model
	case !same(w.Last(), want):
		t.Fatalf("%+v: %+v, not %+v", o, w.Last(), want)
	}
	return after
}

func damaged(t *testing.T, r *rand.Rand, w *ward.Ward) *tree.Tree {
	t.Helper()
	w.Do(fuse(0))
	for range 1 + r.Intn(3) {
		play(t, w, api.OK, spoil(8+r.Intn(496), uint64(r.Intn(5)))) // not the heads
	}
	was := w.Image()
	kept := cure.Kept(was)
	play(t, w, api.OK, heal)
	a, _ := image.Open(was)
	b, _ := image.Open(w.Image())
	now, err := w.Tree()
	if err != api.OK || len(w.Findings()) != 0 {
		t.Fatalf("mended: %v, %v", err, w.Findings())
	}
	if was[8] == 0 { // no record stood there
		for _, n := range kept {
			if v, ok := b.Node(n); !ok || v.Type == 0 || !bytes.Equal(a.Content(n), b.Content(n)) {
				t.Errorf("node %d is not kept", n)
			}
		}
	}
	return now
}
