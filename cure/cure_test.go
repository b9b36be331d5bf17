package cure_test

import (
	"bytes"
	"math/rand"
	"slices"
	"strconv"
	"testing"

	"lintel/api"
	"lintel/bits"
	"lintel/check"
	"lintel/cure"
	"lintel/geom"
	"lintel/head"
	"lintel/image"
	"lintel/node"
	"lintel/redo"
	"lintel/slot"
)

// In plain: book 1, bits 21, nodes 22 to 31, lost 32 to 41, data 42 to 62.
var plain = geom.Plain(64)

func run(from, n int) node.Run { return node.Run{From: from, Len: n} }

func thing(typ, links, size int, l ...node.Run) node.Node {
	return node.Node{Type: typ, Links: links, Size: size, Runs: l}
}

func put(l []uint64, block int, words []uint64) { copy(l[8*block:8*block+8], words) }

func setNode(l []uint64, n int, v node.Node) { put(l, 21+n, node.Put(v)) }

func setSlot(l []uint64, block, n int, name string) {
	put(l, block, slot.Put(slot.Slot{Node: n, Name: name}))
}

func setBits(l []uint64, yes bool, blocks ...int) {
	put(l, 21, bits.Set(bits.Bits{L: l[8*21 : 8*22]}, yes, blocks...).L)
}

// whole is a fine image: Root (42 to 45) has File 3 as f, Dir 4 as d, Link 5 as l; Dir 4 (46, 47) has File 3 as g, Dir 6 as e (no slots); Lost has File 7.
func whole(t *testing.T) []uint64 {
	t.Helper()
	l, err := image.Make(plain)
	if err != api.OK {
		t.Fatal(err)
	}
	setNode(l, 1, thing(2, 1, 4, run(42, 4)))
	setNode(l, 3, thing(1, 2, 100, run(50, 1), run(52, 1)))
	setNode(l, 4, thing(2, 1, 2, run(46, 2)))
	setNode(l, 5, thing(3, 1, 3, run(54, 1)))
	setNode(l, 6, thing(2, 1, 0))
	setNode(l, 7, thing(1, 1, 64, run(55, 1)))
	setSlot(l, 42, 3, "f")
	setSlot(l, 43, 4, "d")
	setSlot(l, 45, 5, "l")
	setSlot(l, 46, 3, "g")
	setSlot(l, 47, 6, "e")
	setSlot(l, 38, 7, "#7")
	setBits(l, true, 42, 43, 44, 45, 46, 47, 50, 52, 54, 55)
	if !check.Fine(l) {
		t.Fatal(check.Run(l))
	}
	return l
}

// well holds what cure answers against its promises.
func well(t *testing.T, what string, l []uint64) []uint64 {
	t.Helper()
	was := slices.Clone(l)
	out, err := cure.Of(l)
	if err != api.OK {
		t.Fatalf("%s: %v", what, err)
	}
	if found := check.Run(out); len(found) != 0 {
		t.Fatalf("%s: not fine: %v", what, found)
	}
	if again, err := cure.Of(out); err != api.OK || !slices.Equal(again, out) {
		t.Errorf("%s: Of of it is other", what)
	}
	planned(t, what, l, out)
	kept(t, what, l, out)
	if check.Fine(l) && !slices.Equal(out, l) {
		t.Errorf("%s: a fine one is changed", what)
	}
	if !slices.Equal(l, was) {
		t.Errorf("%s: written", what)
	}
	return out
}

// planned: the steps lead to the words, and are of the form that the document tells.
func planned(t *testing.T, what string, l, out []uint64) {
	t.Helper()
	steps, err := cure.Plan(l)
	if err != api.OK {
		t.Fatalf("%s: %v", what, err)
	}
	now := slices.Clone(l)
	phase, last := 1, -1
	for _, s := range steps {
		if s.Phase < phase || s.Phase > 7 || len(s.L) == 0 || s.Phase == 1 && len(s.L) != 1 {
			t.Errorf("%s: a step %v behind phase %d", what, s, phase)
		}
		if s.Phase > phase {
			phase, last = s.Phase, -1
		}
		if phase > 1 && s.L[0].At/8 <= last/8 && last >= 0 {
			t.Errorf("%s: two steps of phase %d in one block", what, phase)
		}
		for _, w := range s.L {
			if w.At <= last || now[w.At] == w.V || w.At/8 != s.L[0].At/8 {
				t.Errorf("%s: a step %v", what, s)
			}
			last = w.At
		}
		now = redo.Do(now, s.L...)
	}
	if !slices.Equal(now, out) {
		t.Errorf("%s: the steps lead elsewhere", what)
	}
}

// kept: what Kept tells keeps Type, Size and Content.
func kept(t *testing.T, what string, l, out []uint64) {
	t.Helper()
	a, _ := image.Open(l)
	b, _ := image.Open(out)
	for _, n := range cure.Kept(l) {
		v, ok := a.Node(n)
		w, still := b.Node(n)
		if !ok || !still || v.Type == 0 || v.Type != w.Type || v.Size != w.Size || !bytes.Equal(a.Content(n), b.Content(n)) {
			t.Errorf("%s: node %d is not kept", what, n)
		}
	}
}

// becomes: with a change the words become those of the fine image with another change.
func becomes(t *testing.T, what string, change, want func(l []uint64)) {
	t.Helper()
	l, other := whole(t), whole(t)
	change(l)
	want(other)
	out := well(t, what, l)
	for at := range out {
		if out[at] != other[at] {
			t.Errorf("%s: word %d of block %d is %x, not %x", what, at%8, at/8, out[at], other[at])
		}
	}
}

func same([]uint64) {}

func keeps(t *testing.T, what string, change func(l []uint64), want ...int) {
	t.Helper()
	l := whole(t)
	change(l)
	if got := cure.Kept(l); !slices.Equal(got, want) {
		t.Errorf("%s: Kept %v, not %v", what, got, want)
	}
}

func TestRefused(t *testing.T) {
	l := whole(t)
	none := slices.Clone(l)
	none[0], none[8*63] = 0, 0
	for i, bad := range [][]uint64{nil, l[:511], l[:504], none, make([]uint64, 512), append(slices.Clone(l), 0), make([]uint64, 9000)} {
		out, err := cure.Of(bad)
		steps, err2 := cure.Plan(bad)
		if err != api.EFORM || err2 != api.EFORM || len(out)+len(steps) != 0 || len(cure.Kept(bad)) != 0 {
			t.Errorf("words %d: %v, %v", i, err, err2)
		}
	}
}

func TestFine(t *testing.T) {
	becomes(t, "a fine one", same, same)
	if steps, err := cure.Plan(whole(t)); err != api.OK || len(steps) != 0 {
		t.Errorf("Plan of a fine one: %v, %v", steps, err)
	}
	for _, g := range []geom.Geom{plain, geom.Plain(1024), {Blocks: 600, Nodes: 64, Clients: 4, Book: 30}} {
		l, _ := image.Make(g)
		if out := well(t, "Make", l); !slices.Equal(out, l) {
			t.Errorf("Make(%v) is changed", g)
		}
	}
	out, _ := cure.Of(whole(t))
	out[0] = 7
	keeps(t, "a fine one", same, 1, 2, 3, 4, 5, 6, 7)
}

func TestHeads(t *testing.T) {
	other := geom.Geom{Blocks: 64, Nodes: 9, Clients: 1, Book: 20}
	becomes(t, "no first", func(l []uint64) { put(l, 0, []uint64{9, 9, 9, 9, 9, 9, 9, 9}) }, same)
	becomes(t, "no back", func(l []uint64) { put(l, 63, make([]uint64, 8)) }, same)
	becomes(t, "another back", func(l []uint64) { put(l, 63, head.Put(head.Head{Geom: other, Phase: 3})) }, same)
	becomes(t, "phases", func(l []uint64) { l[6], l[8*63+6] = 7, 8 }, same)
	becomes(t, "a back phase, no first", func(l []uint64) { l[7]++; l[8*63+6] = 8 }, same)
	becomes(t, "a mark", func(l []uint64) { l[8], l[9], l[16] = 5, 6, 7 }, func(l []uint64) { l[9], l[16] = 6, 7 })
	l, _ := image.Make(geom.Geom{Blocks: 100, Nodes: 10, Clients: 3, Book: 16})
	want := slices.Clone(l)
	l[8], l[8*17], l[8*33] = 1, 2, 3
	if out := well(t, "three marks", l); !slices.Equal(out, want) {
		t.Error("three marks: other words")
	}
}

func TestNodes(t *testing.T) {
	spare := func(l []uint64) {
		setSlot(l, 42, 0, "")
		setSlot(l, 46, 0, "")
		setNode(l, 3, node.Node{})
		setBits(l, false, 50, 52)
	}
	becomes(t, "no node", func(l []uint64) { l[8*24+3] ^= 1 << 50 }, spare)
	becomes(t, "not Good", func(l []uint64) { setNode(l, 3, thing(1, 2, 100, run(50, 1))) }, spare)
	becomes(t, "too many Links", func(l []uint64) { setNode(l, 3, thing(1, 201, 100, run(50, 1), run(52, 1))) }, spare)
	becomes(t, "a Dir of two Links", func(l []uint64) { setNode(l, 6, thing(2, 2, 0)) }, func(l []uint64) { setNode(l, 6, node.Node{}); setSlot(l, 47, 0, "") })
	becomes(t, "another Lost", func(l []uint64) { setNode(l, 10, thing(2, 1, 10, run(32, 10))) }, same)
	becomes(t, "no Lost", func(l []uint64) { setNode(l, 2, node.Node{}) }, same) // its slots are there still
	becomes(t, "Lost elsewhere", func(l []uint64) { setNode(l, 2, thing(2, 1, 1, run(60, 1))) }, same)
	becomes(t, "Lost of two Links", func(l []uint64) { setNode(l, 2, thing(2, 2, 10, run(32, 10))) }, same)
	keeps(t, "no node", func(l []uint64) { l[8*24+3] ^= 1 << 50 }, 1, 2, 4, 5, 6, 7)
	keeps(t, "a Dir of two Links", func(l []uint64) { setNode(l, 6, thing(2, 2, 0)) }, 1, 2, 3, 4, 5, 7)
	keeps(t, "no Lost, no Root", func(l []uint64) { setNode(l, 2, node.Node{}); l[8*22+7]++ }, 3, 4, 5, 6, 7)
}

func TestRoot(t *testing.T) {
	emptied := func(l []uint64) { // all that Root had is in Lost: f and d's g, d, l
		setNode(l, 1, thing(2, 1, 0))
		setBits(l, false, 42, 43, 44, 45)
		setNode(l, 3, thing(1, 1, 100, run(50, 1), run(52, 1)))
		setSlot(l, 35, 4, "#4")
		setSlot(l, 36, 5, "#5")
	}
	for what, v := range map[string]node.Node{"free": {}, "a File": thing(1, 1, 256, run(42, 4)), "of two Links": thing(2, 2, 4, run(42, 4)), "not Good": thing(2, 1, 5, run(42, 4)), "with Lost's": thing(2, 1, 10, run(32, 10))} {
		becomes(t, "Root "+what, func(l []uint64) { setNode(l, 1, v) }, emptied)
	}
}

func TestShares(t *testing.T) {
	becomes(t, "one of two", func(l []uint64) { setNode(l, 7, thing(1, 1, 64, run(50, 1))) }, func(l []uint64) {
		setNode(l, 7, node.Node{})
		setSlot(l, 38, 0, "")
		setBits(l, false, 55)
	})
	// 7 shares with 5 alone, and 5 with 3: 5 is free by then, so 7 stays.
	becomes(t, "one behind another", func(l []uint64) {
		setNode(l, 5, thing(3, 1, 100, run(50, 1), run(55, 1)))
	}, func(l []uint64) {
		setNode(l, 5, node.Node{})
		setSlot(l, 45, 0, "")
		setBits(l, false, 54)
	})
	keeps(t, "one of two", func(l []uint64) { setNode(l, 7, thing(1, 1, 64, run(50, 1))) }, 1, 2, 4, 5, 6)
	keeps(t, "one behind another", func(l []uint64) { setNode(l, 5, thing(3, 1, 100, run(50, 1), run(55, 1))) }, 1, 2, 4, 6)
	keeps(t, "with one that is not sound", func(l []uint64) { setNode(l, 10, thing(2, 2, 1, run(50, 1))) }, 1, 2, 3, 4, 5, 6, 7)
}

func TestSlots(t *testing.T) {
	free := func(l []uint64) { setSlot(l, 44, 0, "") }
	for what, change := range map[string]func(l []uint64){
		"none":          func(l []uint64) { l[8*44+5] = 9 },
		"of none":       func(l []uint64) { setSlot(l, 44, 9, "x") },
		"of Root":       func(l []uint64) { setSlot(l, 44, 1, "x") },
		"of Lost":       func(l []uint64) { setSlot(l, 44, 2, "x") },
		"a name twice":  func(l []uint64) { setSlot(l, 44, 5, "f") },
		"lost+found":    func(l []uint64) { setSlot(l, 44, 5, "lost+found") },
		"a Dir twice":   func(l []uint64) { setSlot(l, 44, 4, "x") },
		"in Lost":       func(l []uint64) { setSlot(l, 40, 3, "#3") },
		"in Lost, name": func(l []uint64) { setSlot(l, 34, 3, "3") },
	} {
		becomes(t, what, change, func(l []uint64) {
			free(l)
		})
	}
	// Both go, though with the first one gone the second would be well: its node comes to Lost.
	becomes(t, "a name behind one of none", func(l []uint64) { setSlot(l, 44, 9, "l") }, func(l []uint64) {
		setSlot(l, 45, 0, "")
		setSlot(l, 36, 5, "#5")
	})
	becomes(t, "a Dir of a lesser one", func(l []uint64) { setSlot(l, 44, 6, "x") }, func(l []uint64) { setSlot(l, 44, 6, "x"); setSlot(l, 47, 0, "") })
}

func TestAdopt(t *testing.T) {
	becomes(t, "a Dir of no name", func(l []uint64) { setSlot(l, 43, 0, "") }, func(l []uint64) { setSlot(l, 43, 0, ""); setSlot(l, 35, 4, "#4") })
	becomes(t, "a File of no name", func(l []uint64) { setSlot(l, 38, 0, "") }, same)
	becomes(t, "two of no name", func(l []uint64) {
		setSlot(l, 45, 0, "")
		setNode(l, 10, thing(2, 1, 0))
	}, func(l []uint64) {
		setSlot(l, 45, 0, "")
		setNode(l, 10, thing(2, 1, 0))
		setSlot(l, 36, 5, "#5")
		setSlot(l, 41, 10, "#10")
	})
	// A circle of 4 and 6: the lesser one comes to Lost, its name in the other one is free.
	circle := func(l []uint64) {
		setNode(l, 6, thing(2, 1, 2, run(60, 2)))
		setSlot(l, 43, 0, "")
		setSlot(l, 61, 4, "up")
		setBits(l, true, 60, 61)
	}
	becomes(t, "a circle", circle, func(l []uint64) { circle(l); setSlot(l, 61, 0, ""); setSlot(l, 35, 4, "#4") })
	// The least Dir that is not reached is 4, a child of the circle of 6 and 8: it comes to Lost, then 6.
	becomes(t, "a child of a circle", func(l []uint64) {
		setNode(l, 6, thing(2, 1, 2, run(60, 2)))
		setNode(l, 8, thing(2, 1, 1, run(58, 1)))
		setSlot(l, 43, 0, "")
		setSlot(l, 47, 0, "")
		setSlot(l, 60, 8, "h")
		setSlot(l, 61, 4, "d")
		setSlot(l, 58, 6, "e")
	}, func(l []uint64) {
		setNode(l, 6, thing(2, 1, 2, run(60, 2)))
		setNode(l, 8, thing(2, 1, 1, run(58, 1)))
		setSlot(l, 43, 0, "")
		setSlot(l, 47, 0, "")
		setSlot(l, 60, 8, "h")
		setSlot(l, 61, 0, "")
		setSlot(l, 58, 0, "")
		setSlot(l, 35, 4, "#4")
		setSlot(l, 37, 6, "#6")
		setBits(l, true, 58, 60, 61)
	})
	becomes(t, "a Dir in itself", func(l []uint64) { setSlot(l, 43, 0, ""); setSlot(l, 46, 4, "me") }, func(l []uint64) {
		setSlot(l, 43, 0, "")
		setSlot(l, 46, 0, "")
		setSlot(l, 35, 4, "#4")
		setNode(l, 3, thing(1, 1, 100, run(50, 1), run(52, 1)))
	})
	// A File with a name in a Dir that is not reached waits for that Dir.
	becomes(t, "a File in a lost Dir", func(l []uint64) { setSlot(l, 42, 0, ""); setSlot(l, 43, 0, "") }, func(l []uint64) {
		setSlot(l, 42, 0, "")
		setSlot(l, 43, 0, "")
		setSlot(l, 35, 4, "#4")
		setNode(l, 3, thing(1, 1, 100, run(50, 1), run(52, 1)))
	})
}

func TestLinks(t *testing.T) {
	becomes(t, "another number", func(l []uint64) { setNode(l, 3, thing(1, 9, 100, run(50, 1), run(52, 1))) }, same)
	becomes(t, "a name more", func(l []uint64) { setSlot(l, 44, 5, "m") }, func(l []uint64) { setSlot(l, 44, 5, "m"); setNode(l, 5, thing(3, 2, 3, run(54, 1))) })
	becomes(t, "a name less", func(l []uint64) { setSlot(l, 46, 0, "") }, func(l []uint64) {
		setSlot(l, 46, 0, "")
		setNode(l, 3, thing(1, 1, 100, run(50, 1), run(52, 1)))
	})
}

func TestAllNodes(t *testing.T) {
	// bits 17, nodes 18 to 81, lost 82 to 145, data 146 on: node 63 is a Dir with File 64, and no name.
	l, _ := image.Make(geom.Geom{Blocks: 200, Nodes: 64, Clients: 1, Book: 16})
	put(l, 80, node.Put(thing(2, 1, 1, run(147, 1))))
	put(l, 81, node.Put(thing(1, 5, 0)))
	setSlot(l, 147, 64, "f")
	if got := cure.Kept(l); !slices.Equal(got, []int{1, 2, 63, 64}) {
		t.Errorf("Kept of 64 nodes: %v", got)
	}
	x, _ := image.Open(well(t, "64 nodes", l))
	if s := x.Slots(2); s[62] != (slot.Slot{Node: 63, Name: "#63"}) || s[63] != (slot.Slot{}) {
		t.Errorf("64 nodes: %v", s)
	}
}

func TestMaxLinks(t *testing.T) {
	g := geom.Geom{Blocks: 400, Nodes: 10, Clients: 1, Book: 16} // bits 17, nodes 18 to 27, lost 28 to 37, data 38 to 398
	l, _ := image.Make(g)
	put(l, 18, node.Put(thing(2, 1, 151, run(200, 100), run(100, 51))))
	put(l, 20, node.Put(thing(1, 1, 0)))
	put(l, 21, node.Put(thing(2, 1, 100, run(40, 50), run(340, 50))))
	put(l, 200, slot.Put(slot.Slot{Node: 4, Name: "d"}))
	for i := range 150 { // places 1 to 150 of Root
		at := 201 + i
		if i >= 99 {
			at = 100 + i - 99
		}
		put(l, at, slot.Put(slot.Slot{Node: 3, Name: strconv.Itoa(i)}))
	}
	for i := range 100 {
		at := 40 + i
		if i >= 50 {
			at = 340 + i - 50
		}
		put(l, at, slot.Put(slot.Slot{Node: 3, Name: strconv.Itoa(i)}))
	}
	put(l, 30, slot.Put(slot.Slot{Node: 3, Name: "#3"}))
	x, _ := image.Open(well(t, "251 names", l))
	if v, _ := x.Node(3); v.Links != 200 {
		t.Errorf("251 names: %d Links", v.Links)
	}
	if s := x.Slots(4); s[48].Node != 3 || slices.ContainsFunc(s[49:], func(s slot.Slot) bool { return s != slot.Slot{} }) || x.Slots(1)[150].Node != 3 || x.Slots(2)[2].Node != 3 {
		t.Error("251 names: others than the first 200 stay")
	}
	put(l, 388, make([]uint64, 8))
	for i := range 50 {
		put(l, 340+i, make([]uint64, 8))
	}
	put(l, 89, make([]uint64, 8))
	if x, _ = image.Open(well(t, "200 names", l)); x.Slots(4)[48].Node != 3 {
		t.Error("200 names: some are gone")
	}
}

func TestBits(t *testing.T) {
	becomes(t, "bits", func(l []uint64) { setBits(l, false, 0, 21, 41, 50, 63); setBits(l, true, 62, 64, 511) }, same)
	l, _ := image.Make(geom.Plain(1024))
	want := slices.Clone(l)
	for i := range 16 {
		l[8*21+i] ^= 0x123456789abcdef << i
	}
	if out := well(t, "bits of two blocks", l); !slices.Equal(out, want) {
		t.Error("bits of two blocks: other words")
	}
	if steps, _ := cure.Plan(l); len(steps) != 2 || steps[0].Phase != 7 || len(steps[0].L) != 8 || len(steps[1].L) != 8 {
		t.Errorf("bits of two blocks: %v", steps)
	}
}

func TestPhases(t *testing.T) {
	l := whole(t)
	l[6], l[8*63] = 1, 0
	l[8] = 3
	setNode(l, 8, thing(1, 201, 0))
	setNode(l, 7, thing(1, 1, 64, run(50, 1)))
	setSlot(l, 44, 9, "x")
	setNode(l, 10, thing(2, 1, 0))
	setNode(l, 3, thing(1, 7, 100, run(50, 1), run(52, 1)))
	steps, err := cure.Plan(l)
	var got []int
	for _, s := range steps {
		got = append(got, s.Phase)
	}
	if err != api.OK || !slices.Equal(got, []int{1, 1, 1, 2, 3, 4, 4, 5, 6, 7}) {
		t.Errorf("phases: %v", got)
	}
	if steps[0].L[0] != (redo.Write{At: 6}) || steps[1].L[0] != (redo.Write{At: 8}) || steps[2].L[0] != (redo.Write{At: 8 * 63, V: 0x4c494e54454c0001}) {
		t.Errorf("the first phase: %v", steps[:3])
	}
	well(t, "all phases", l)
}

// havoc changes some blocks, so that they still look like nodes, slots and words.
func havoc(r *rand.Rand, l []uint64) {
	for range 1 + r.Intn(9) {
		switch r.Intn(8) {
		case 0:
			l[r.Intn(len(l))] ^= 1 << r.Intn(64)
		case 1:
			l[8*21] ^= 1 << r.Intn(64)
		case 2, 3:
			setSlot(l, 32+r.Intn(31), r.Intn(11), []string{"a", "b", "f", "d", "l", "#3", "#4", "#7", "lost+found"}[r.Intn(9)])
		case 4:
			n := 3 + r.Intn(8)
			setSlot(l, 31+n, n, "#"+strconv.Itoa(n))
		case 5:
			l[[]int{0, 1, 6, 7, 8, 8 * 63, 8*63 + 6}[r.Intn(7)]] = uint64(r.Intn(3))
		default:
			size := r.Intn(4)
			v := thing(1+r.Intn(3), 1+r.Intn(2), size)
			if size > 0 {
				v.Runs = []node.Run{run(42+r.Intn(21-size), size)}
			}
			if v.Type != 2 {
				v.Size = 64 * size
			} else if v.Links = 1; r.Intn(20) == 0 {
				v.Links = 2
			}
			setNode(l, 1+r.Intn(10), v)
		}
	}
}

func TestAnything(t *testing.T) {
	r := rand.New(rand.NewSource(1))
	phases := map[int]int{}
	for range 2000 {
		l := whole(t)
		havoc(r, l)
		if _, first, back := head.Find(l); !first && !back {
			continue
		}
		well(t, "any words", l)
		steps, _ := cure.Plan(l)
		for _, s := range steps {
			phases[s.Phase]++
		}
	}
	for phase := 1; phase <= 7; phase++ {
		if phases[phase] == 0 {
			t.Errorf("no step of phase %d", phase)
		}
	}
}
