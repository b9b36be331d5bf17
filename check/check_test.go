package check_test

import (
	"slices"
	"testing"

	"lintel/api"
	"lintel/bits"
	"lintel/check"
	"lintel/geom"
	"lintel/head"
	"lintel/image"
	"lintel/node"
	"lintel/slot"
)

// In plain: book 1, bits 21, nodes 22 to 31, lost 32 to 41, data 42 to 62.
var plain = geom.Plain(64)

type find = check.Finding

func f(pass, kind, at, more int) find {
	return find{Pass: pass, Kind: kind, At: at, More: more}
}

func run(from, n int) node.Run { return node.Run{From: from, Len: n} }

func thing(typ, links, size int, l ...node.Run) node.Node {
	return node.Node{Type: typ, Links: links, Size: size, Runs: l}
}

func put(l []uint64, block int, words []uint64) { copy(l[8*block:8*block+8], words) }

// setNode and setSlot write one, whatever stands there.
func setNode(l []uint64, n int, v node.Node) { put(l, 21+n, node.Put(v)) }
func setSlot(l []uint64, block, n int, name string) {
	put(l, block, slot.Put(slot.Slot{Node: n, Name: name}))
}
func setBits(l []uint64, yes bool, blocks ...int) {
	put(l, 21, bits.Set(bits.Bits{L: l[8*21 : 8*22]}, yes, blocks...).L)
}

// whole is a fine image: Root (42 to 45) has File 3 as f, Dir 4 as d, Link 5 as l; Dir 4 (46, 47) has File 3 as g, Dir 6 as e (no slots); Lost has File 7.
func whole(t *testing.T) []uint64 {
	t.Helper()
	l, err := image.Make(plain)
	if err != api.OK {
		t.Fatal(err)
	}
	setNode(l, 1, thing(2, 1, 4, run(42, 4)))
	setNode(l, 3, thing(1, 2, 100, run(50, 1), run(52, 1)))
	setNode(l, 4, thing(2, 1, 2, run(46, 2)))
	setNode(l, 5, thing(3, 1, 3, run(54, 1)))
	setNode(l, 6, thing(2, 1, 0))
	setNode(l, 7, thing(1, 1, 64, run(55, 1)))
	setSlot(l, 42, 3, "f")
	setSlot(l, 43, 4, "d")
	setSlot(l, 45, 5, "l")
	setSlot(l, 46, 3, "g")
	setSlot(l, 47, 6, "e")
	setSlot(l, 38, 7, "#7")
	setBits(l, true, 42, 43, 44, 45, 46, 47, 50, 52, 54, 55)
	return l
}

// spoilt is what is found in the fine image with some change.
func spoilt(t *testing.T, change func(l []uint64)) []find {
	t.Helper()
	l := whole(t)
	change(l)
	was := slices.Clone(l)
	got := check.Run(l)
	if !slices.Equal(l, was) {
		t.Error("Run writes")
	}
	if check.Fine(l) != (len(got) == 0) {
		t.Error("Fine says other than Run")
	}
	if x, err := image.Open(l); len(got) == 0 {
		if err != api.OK {
			t.Error("fine, but no image")
		}
		if _, err := x.Tree(); err != api.OK {
			t.Error("fine, but no tree")
		}
	}
	return got
}

// wants: with this change just these are found.
func wants(t *testing.T, what string, change func(l []uint64), want ...find) {
	t.Helper()
	if got := spoilt(t, change); !slices.Equal(got, want) {
		t.Errorf("%s: %v, not %v", what, got, want)
	}
	l := whole(t)
	change(l)
	if got := plainly(l); !slices.Equal(got, want) {
		t.Errorf("%s: plainly %v, not %v", what, got, want)
	}
}

func TestFine(t *testing.T) {
	wants(t, "a fine one", func(l []uint64) {})
	for _, g := range []geom.Geom{plain, geom.Plain(1024), {Blocks: 600, Nodes: 64, Clients: 4, Book: 30}} {
		l, _ := image.Make(g)
		if got := check.Run(l); len(got) != 0 || !check.Fine(l) {
			t.Errorf("Run(Make(%v)): %v", g, got)
		}
	}
	wants(t, "what does not count", func(l []uint64) {
		l[8*9], l[8*1+1], l[8*1+7] = 9, 9, 9 // a book behind its mark
		l[8*62], l[8*56+3] = 9, 9            // free data
		l[8*54+1], l[8*52+7] = 9, 9          // behind a Size
	})
}

func TestForm(t *testing.T) {
	l := whole(t)
	short := [][]uint64{nil, l[:8], l[:511], l[:504], append(slices.Clone(l), 0), make([]uint64, 63*8), make([]uint64, 1025*8), make([]uint64, 7)}
	for i, l := range short {
		if got := check.Run(l); !slices.Equal(got, []find{f(0, 1, 0, 0)}) {
			t.Errorf("short words %d: %v", i, got)
		}
	}
	none := slices.Clone(l)
	none[0], none[8*63] = 0, 0
	for i, l := range [][]uint64{none, make([]uint64, 512), make([]uint64, 1024*8), append(slices.Clone(l), make([]uint64, 8)...)} {
		if got := check.Run(l); !slices.Equal(got, []find{f(0, 2, 0, 0)}) {
			t.Errorf("headless words %d: %v", i, got)
		}
	}
}

func TestHeads(t *testing.T) {
	other := geom.Geom{Blocks: 64, Nodes: 9, Clients: 1, Book: 20}
	wants(t, "no first", func(l []uint64) { l[0] = 0 }, f(0, 3, 0, 0))
	wants(t, "no back", func(l []uint64) { l[8*63+7]++ }, f(0, 4, 63, 0))
	wants(t, "another back", func(l []uint64) { put(l, 63, head.Put(head.Head{Geom: other, Phase: 5})) }, f(0, 4, 63, 0))
	wants(t, "a greater first", func(l []uint64) { put(l, 0, head.Put(head.Head{Geom: geom.Plain(65), Phase: 1})) }, f(0, 3, 0, 0))
	wants(t, "a first phase", func(l []uint64) { l[6] = 1 }, f(0, 5, 0, 0))
	wants(t, "a back phase", func(l []uint64) { l[8*63+6] = 1 << 63 }, f(0, 5, 63, 0))
	wants(t, "two phases", func(l []uint64) { l[6], l[8*63+6] = 7, 1 }, f(0, 5, 0, 0), f(0, 5, 63, 0))
	wants(t, "no first, a back phase", func(l []uint64) { l[1]++; l[8*63+6] = 1 }, f(0, 3, 0, 0), f(0, 5, 63, 0))
	wants(t, "no back, a first phase", func(l []uint64) { l[6] = 1; l[8*63] = 1 }, f(0, 5, 0, 0), f(0, 4, 63, 0))
}

func TestHeadCounts(t *testing.T) {
	// The first one's Geom counts: with 9 nodes all stands elsewhere.
	l, _ := image.Make(geom.Geom{Blocks: 64, Nodes: 9, Clients: 1, Book: 20})
	put(l, 63, head.Put(head.Head{Geom: plain}))
	if got := check.Run(l); !slices.Equal(got, []find{f(0, 4, 63, 0)}) {
		t.Errorf("the first one's Geom: %v", got)
	}
	l[0] = 0
	if got := check.Run(l); check.Count(got, 0) != 1 || check.Count(got, 2) == 0 {
		t.Errorf("the back one's Geom: %v", got)
	}
}

func TestMarks(t *testing.T) {
	wants(t, "a mark", func(l []uint64) { l[8] = 5 }, f(1, 1, 0, 0))
	l, _ := image.Make(geom.Geom{Blocks: 100, Nodes: 10, Clients: 3, Book: 16})
	l[8*17], l[8*33] = 1, 1<<63
	if got := check.Run(l); !slices.Equal(got, []find{f(1, 1, 1, 0), f(1, 1, 2, 0)}) {
		t.Errorf("marks of three: %v", got)
	}
}

func TestNodes(t *testing.T) {
	wants(t, "none", func(l []uint64) { l[8*31] = 1 }, f(2, 1, 10, 0))
	wants(t, "a spoilt File", func(l []uint64) { l[8*28+1]++ }, f(2, 1, 7, 0), f(4, 2, 2, 6), f(7, 1, 55, 0))
	wants(t, "not Good", func(l []uint64) { setNode(l, 10, thing(1, 1, 64)) }, f(2, 2, 10, 0))
	wants(t, "not Good, a Dir", func(l []uint64) { setNode(l, 10, thing(2, 0, 0)) }, f(2, 2, 10, 0))
	wants(t, "too many Links", func(l []uint64) { setNode(l, 7, thing(1, 201, 64, run(55, 1))) }, f(2, 2, 7, 0), f(4, 2, 2, 6), f(7, 1, 55, 0))
	wants(t, "Root a File", func(l []uint64) { setNode(l, 1, thing(1, 1, 256, run(42, 4))) },
		f(2, 3, 1, 0), f(5, 1, 3, 0), f(5, 1, 4, 0), f(5, 1, 5, 0), f(5, 1, 6, 0), f(6, 1, 3, 1), f(6, 1, 5, 0), f(7, 1, 42, 0), f(7, 1, 43, 0), f(7, 1, 44, 0), f(7, 1, 45, 0))
	wants(t, "Root free", func(l []uint64) { setNode(l, 1, node.Node{}) },
		f(2, 3, 1, 0), f(5, 1, 3, 0), f(5, 1, 4, 0), f(5, 1, 5, 0), f(5, 1, 6, 0), f(6, 1, 3, 1), f(6, 1, 5, 0), f(7, 1, 42, 0), f(7, 1, 43, 0), f(7, 1, 44, 0), f(7, 1, 45, 0))
	wants(t, "Lost free", func(l []uint64) { setNode(l, 2, node.Node{}) }, f(2, 4, 2, 0), f(5, 1, 7, 0), f(6, 1, 7, 0))
	wants(t, "Lost a File", func(l []uint64) { setNode(l, 2, thing(1, 1, 0)) }, f(2, 4, 2, 0), f(5, 1, 7, 0), f(6, 1, 7, 0))
	wants(t, "Lost another Dir", func(l []uint64) { setNode(l, 2, thing(2, 1, 1, run(60, 1))) }, f(2, 4, 2, 0), f(5, 1, 7, 0), f(6, 1, 7, 0))
	wants(t, "Lost not Good", func(l []uint64) { setNode(l, 2, thing(2, 1, 9, run(32, 10))) }, f(2, 2, 2, 0), f(5, 1, 7, 0), f(6, 1, 7, 0))
	wants(t, "another Lost", func(l []uint64) { setNode(l, 10, thing(2, 1, 10, run(32, 10))) }, f(2, 5, 10, 0))
	wants(t, "another Lost of two Links", func(l []uint64) { setNode(l, 10, thing(2, 2, 10, run(32, 10))) }, f(2, 5, 10, 0))
	wants(t, "Lost of two Links", func(l []uint64) { setNode(l, 2, thing(2, 2, 10, run(32, 10))) }, f(2, 6, 2, 0), f(5, 1, 7, 0), f(6, 1, 7, 0))
	wants(t, "a Dir of two Links", func(l []uint64) { setNode(l, 6, thing(2, 2, 0)) }, f(2, 6, 6, 0), f(4, 2, 4, 1))
	wants(t, "Root has Lost's", func(l []uint64) { setNode(l, 1, thing(2, 1, 10, run(32, 10))) },
		f(2, 5, 1, 0), f(5, 1, 3, 0), f(5, 1, 4, 0), f(5, 1, 5, 0), f(5, 1, 6, 0), f(6, 1, 3, 1), f(6, 1, 5, 0), f(7, 1, 42, 0), f(7, 1, 43, 0), f(7, 1, 44, 0), f(7, 1, 45, 0))
}

func TestShares(t *testing.T) {
	wants(t, "one block of two", func(l []uint64) { setNode(l, 7, thing(1, 1, 64, run(50, 1))) }, f(3, 1, 7, 3), f(7, 1, 55, 0))
	wants(t, "three of one", func(l []uint64) {
		setNode(l, 7, thing(1, 1, 128, run(54, 1), run(50, 1)))
		setNode(l, 5, thing(3, 1, 3, run(50, 1)))
	}, f(3, 1, 5, 3), f(3, 1, 7, 3), f(7, 1, 55, 0))
	wants(t, "the least of two", func(l []uint64) { setNode(l, 7, thing(1, 1, 192, run(54, 1), run(47, 1), run(52, 1))) }, f(3, 1, 7, 3), f(7, 1, 55, 0))
	wants(t, "with one that is not sound", func(l []uint64) { setNode(l, 10, thing(1, 201, 64, run(50, 1))) }, f(2, 2, 10, 0))
}

func TestSlots(t *testing.T) {
	spare := func(n int, name string) func(l []uint64) { // the free place 2 of Root
		return func(l []uint64) { setSlot(l, 44, n, name) }
	}
	wants(t, "none", func(l []uint64) { l[8*44] = 1 }, f(4, 1, 1, 2))
	wants(t, "of none", spare(9, "x"), f(4, 2, 1, 2))
	wants(t, "of a number behind all", spare(64, "x"), f(4, 2, 1, 2))
	wants(t, "of Root", spare(1, "x"), f(4, 3, 1, 2))
	wants(t, "of Lost", spare(2, "f"), f(4, 3, 1, 2))
	wants(t, "a name twice", spare(5, "f"), f(4, 4, 1, 2))
	wants(t, "a name twice, of none", spare(9, "f"), f(4, 2, 1, 2))
	wants(t, "a name behind", spare(5, "l"), f(4, 4, 1, 3))
	wants(t, "a name behind one of none", spare(9, "l"), f(4, 2, 1, 2), f(4, 4, 1, 3), f(5, 1, 5, 0), f(6, 1, 5, 0))
	wants(t, "lost+found", spare(5, "lost+found"), f(4, 4, 1, 2))
	wants(t, "lost+found elsewhere", func(l []uint64) { setSlot(l, 46, 3, "lost+found") })
	wants(t, "one name in two Dirs", func(l []uint64) { setSlot(l, 46, 3, "f") })
	wants(t, "Lost: another place", func(l []uint64) { setSlot(l, 38, 0, ""); setSlot(l, 39, 7, "#7") }, f(4, 5, 2, 7), f(5, 1, 7, 0), f(6, 1, 7, 0))
	wants(t, "Lost: another name", func(l []uint64) { setSlot(l, 38, 7, "#8") }, f(4, 5, 2, 6), f(5, 1, 7, 0), f(6, 1, 7, 0))
	wants(t, "Lost: noughts ahead", func(l []uint64) { setSlot(l, 38, 7, "#07") }, f(4, 5, 2, 6), f(5, 1, 7, 0), f(6, 1, 7, 0))
	wants(t, "Lost: of none", func(l []uint64) { setSlot(l, 39, 8, "#8") }, f(4, 2, 2, 7))
	wants(t, "Lost: of itself", func(l []uint64) { setSlot(l, 33, 2, "#2") }, f(4, 3, 2, 1))
	wants(t, "a Dir twice in one", spare(4, "x"), f(4, 6, 1, 2))
	wants(t, "a Dir in two", spare(6, "x"), f(4, 6, 4, 1))
	wants(t, "a Dir in Lost too", func(l []uint64) { setSlot(l, 37, 6, "#6") }, f(4, 6, 4, 1))
	wants(t, "Root's and Lost's Dir", func(l []uint64) { setSlot(l, 35, 4, "#4") }, f(4, 6, 2, 3))
	wants(t, "a Dir in a wrong slot ahead", spare(6, "f"), f(4, 4, 1, 2))
	wants(t, "a Dir in itself", func(l []uint64) { setSlot(l, 46, 4, "me") }, f(4, 6, 4, 0), f(6, 1, 3, 1))
	wants(t, "a shared slot", func(l []uint64) { setNode(l, 6, thing(2, 1, 1, run(43, 1))) }, f(3, 1, 6, 1), f(4, 6, 6, 0))
}

func TestReach(t *testing.T) {
	wants(t, "a File of no name", func(l []uint64) { setSlot(l, 38, 0, "") }, f(5, 1, 7, 0), f(6, 1, 7, 0))
	wants(t, "a Dir of no name", func(l []uint64) { setSlot(l, 43, 0, "") }, f(5, 1, 4, 0), f(5, 1, 6, 0))
	wants(t, "a circle", func(l []uint64) { setSlot(l, 43, 0, ""); setSlot(l, 47, 4, "me") }, f(5, 1, 4, 0), f(5, 1, 6, 0))
	wants(t, "an empty Dir", func(l []uint64) { setNode(l, 10, thing(2, 1, 0)) }, f(5, 1, 10, 0))
}

func TestLinks(t *testing.T) {
	wants(t, "more names", func(l []uint64) { setSlot(l, 44, 5, "m") }, f(6, 1, 5, 2))
	wants(t, "fewer names", func(l []uint64) { setSlot(l, 46, 0, "") }, f(6, 1, 3, 1))
	wants(t, "another number", func(l []uint64) { setNode(l, 3, thing(1, 200, 100, run(50, 1), run(52, 1))) }, f(6, 1, 3, 2))
}

func TestRows(t *testing.T) {
	wants(t, "bits", func(l []uint64) { setBits(l, false, 0, 1, 21, 41, 50, 63); setBits(l, true, 62, 51, 48) },
		f(7, 1, 0, 1), f(7, 1, 1, 1), f(7, 1, 21, 1), f(7, 1, 41, 1), f(7, 1, 48, 0), f(7, 1, 50, 1), f(7, 1, 51, 0), f(7, 1, 62, 0), f(7, 1, 63, 1))
	wants(t, "bits behind", func(l []uint64) { setBits(l, true, 64, 65, 200, 511) }, f(7, 2, 64, 0), f(7, 2, 65, 0), f(7, 2, 200, 0), f(7, 2, 511, 0))
}

func TestAllNodes(t *testing.T) {
	// bits 17, nodes 18 to 81, lost 82 to 145, data 146 on: node 63 is a Dir with File 64.
	l, _ := image.Make(geom.Geom{Blocks: 200, Nodes: 64, Clients: 1, Book: 16})
	put(l, 18, node.Put(thing(2, 1, 1, run(146, 1))))
	put(l, 80, node.Put(thing(2, 1, 1, run(147, 1))))
	put(l, 81, node.Put(thing(1, 1, 0)))
	setSlot(l, 146, 63, "d")
	setSlot(l, 147, 64, "f")
	put(l, 17, bits.Set(bits.Bits{L: l[8*17 : 8*18]}, true, 146, 147).L)
	if got := check.Run(l); len(got) != 0 {
		t.Errorf("64 nodes: %v", got)
	}
	setSlot(l, 144, 63, "#63")
	setSlot(l, 145, 64, "#64")
	if got, want := check.Run(l), []find{f(4, 6, 2, 62), f(6, 1, 64, 2)}; !slices.Equal(got, want) {
		t.Errorf("64 nodes, two in Lost: %v", got)
	}
}

func TestOrder(t *testing.T) {
	wants(t, "much", func(l []uint64) {
		l[6], l[8] = 1, 1
		setNode(l, 10, thing(2, 3, 0))
		setSlot(l, 44, 2, "x")
		setSlot(l, 39, 7, "#9")
		setBits(l, true, 62, 64)
	}, f(0, 5, 0, 0), f(1, 1, 0, 0), f(2, 6, 10, 0), f(4, 3, 1, 2), f(4, 5, 2, 7), f(7, 1, 62, 0), f(7, 2, 64, 0))
}

func TestShowAndCount(t *testing.T) {
	if got := check.Show(f(7, 1, 1023, 0)); got != "7 1 1023 0" {
		t.Errorf("Show: %q", got)
	}
	if got := check.Show(f(-1, 22, -333, 4)); got != "-1 22 -333 4" {
		t.Errorf("Show: %q", got)
	}
	l := []find{f(0, 3, 0, 0), f(2, 1, 1, 0), f(2, 1, 2, 0)}
	if check.Count(l, 0) != 1 || check.Count(l, 2) != 2 || check.Count(l, 1) != 0 || check.Count(nil, 0) != 0 || check.Count(l, -1) != 0 {
		t.Error("Count")
	}
}
