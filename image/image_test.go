package image_test

import (
	"bytes"
	"math"
	"slices"
	"strings"
	"testing"

	"lintel/api"
	"lintel/bits"
	"lintel/geom"
	"lintel/head"
	"lintel/image"
	"lintel/node"
	"lintel/seal"
	"lintel/slot"
	"lintel/tree"
)

var plain = geom.Plain(64) // bits 21, nodes 22 to 31, lost 32 to 41, data 42 to 62

func made(t *testing.T, g geom.Geom) []uint64 {
	t.Helper()
	l, err := image.Make(g)
	if err != api.OK {
		t.Fatal(err)
	}
	return l
}

func open(t *testing.T, l []uint64) image.Image {
	t.Helper()
	x, err := image.Open(l)
	if err != api.OK {
		t.Fatal(err)
	}
	return x
}

func put(l []uint64, block int, words []uint64) { copy(l[8*block:], words) }

func file(typ, size int, runs ...node.Run) node.Node {
	return node.Node{Type: typ, Links: 1, Size: size, Runs: runs}
}

func run(from, n int) node.Run { return node.Run{From: from, Len: n} }

// some has a file 3 of 100 bytes in two runs, a link 4, a directory 5 with slots at 50 and 49, of which one tells none.
func some(t *testing.T) []uint64 {
	t.Helper()
	l := made(t, plain)
	put(l, 22, node.Put(file(2, 2, run(60, 2))))
	put(l, 24, node.Put(node.Node{Type: 1, Links: 2, Size: 100, Runs: []node.Run{{From: 45, Len: 1}, {From: 43, Len: 1}}}))
	put(l, 25, node.Put(file(3, 5, run(42, 1))))
	put(l, 26, node.Put(file(2, 3, run(50, 1), run(48, 2))))
	put(l, 60, slot.Put(slot.Slot{Node: 3, Name: "f"}))
	put(l, 61, slot.Put(slot.Slot{Node: 5, Name: "d"}))
	put(l, 34, slot.Put(slot.Slot{Node: 3, Name: "#3"}))
	put(l, 50, slot.Put(slot.Slot{Node: 4, Name: "l"}))
	put(l, 48, []uint64{1, 2, 3, 4, 5, 6, 7, 8})
	for i := range 16 {
		l[8*45+i%8] |= uint64(i / 8) // the first bytes of its words are 1
	}
	l[8*43] = 0x6261
	l[8*42] = 0x706f6e6d6c6b2e2e
	return l
}

func TestMake(t *testing.T) {
	for _, g := range []geom.Geom{plain, geom.Plain(1024), {Blocks: 600, Nodes: 64, Clients: 4, Book: 30}, {Blocks: 64, Nodes: 20, Clients: 1, Book: 20}} {
		l := made(t, g)
		want := make([]uint64, 8*g.Blocks)
		put(want, 0, head.Put(head.Head{Geom: g}))
		put(want, g.Blocks-1, head.Put(head.Head{Geom: g}))
		put(want, geom.Node(g, 1), node.Put(file(2, 0)))
		lost, n := geom.Lost(g)
		put(want, geom.Node(g, 2), node.Put(file(2, n, run(lost, n))))
		at, _ := geom.Bits(g)
		data, n := geom.Data(g)
		for i := range g.Blocks {
			if i < data || i >= data+n {
				want[8*at+i/64] |= 1 << (i % 64)
			}
		}
		if !slices.Equal(l, want) {
			t.Errorf("Make(%v): other words", g)
		}
		x, err := open(t, l).Tree()
		if err != api.OK || !tree.Same(x, tree.New(g.Nodes)) {
			t.Errorf("the tree of Make(%v): %v", g, err)
		}
	}
	for _, g := range []geom.Geom{{}, geom.Plain(63), geom.Plain(1025), geom.Plain(math.MinInt)} {
		if l, err := image.Make(g); err != api.EARG || len(l) != 0 {
			t.Errorf("Make(%v): %v", g, err)
		}
	}
}

func TestOpen(t *testing.T) {
	l := made(t, plain)
	x := open(t, l)
	l[500], l[0] = 7, 0
	if x.Geom != plain || x.Blocks != 64 || x.Nodes != 10 || x.Words[500] != 0 || x.Words[0] == 0 {
		t.Error("Open shares its words")
	}
	if y := open(t, l); y.Geom != plain { // by the back one alone
		t.Errorf("Open: %v", y.Geom)
	}
	other := geom.Geom{Blocks: 64, Nodes: 9, Clients: 1, Book: 20}
	put(l, 0, head.Put(head.Head{Geom: other, Phase: 3}))
	if y := open(t, l); y.Geom != other {
		t.Errorf("Open of two heads: %v", y.Geom)
	}
	for i, bad := range [][]uint64{nil, make([]uint64, 512), made(t, plain)[:511], made(t, plain)[:504], append(made(t, plain), 0), append(made(t, plain), make([]uint64, 8)...)[8:]} {
		if i == 5 { // the back head stands a block ahead of the end
			bad = append(bad, make([]uint64, 8)...)
		}
		if x, err := image.Open(bad); err != api.EFORM || x.Geom != (geom.Geom{}) || len(x.Words) != 0 {
			t.Errorf("Open of words %d: %v", i, err)
		}
	}
}

func TestBlock(t *testing.T) {
	x := open(t, some(t))
	if !slices.Equal(x.Block(48), []uint64{1, 2, 3, 4, 5, 6, 7, 8}) || len(x.Block(0)) != 8 || len(x.Block(63)) != 8 {
		t.Error("Block")
	}
	x.Block(48)[0] = 77
	if x.Words[8*48] != 1 {
		t.Error("Block shares its words")
	}
	for _, at := range []int{-1, 64, math.MaxInt, math.MinInt} {
		if len(x.Block(at)) != 0 {
			t.Errorf("Block(%d)", at)
		}
	}
}

func TestNode(t *testing.T) {
	l := some(t)
	put(l, 28, []uint64{1}) // told by nothing
	x := open(t, l)
	if v, ok := x.Node(3); !ok || v.Type != 1 || v.Links != 2 || v.Size != 100 || !slices.Equal(v.Runs, []node.Run{{From: 45, Len: 1}, {From: 43, Len: 1}}) {
		t.Errorf("Node(3): %v", v)
	}
	if v, ok := x.Node(10); !ok || v.Type != 0 || v.Links != 0 || v.Size != 0 || len(v.Runs) != 0 {
		t.Errorf("Node(10): %v, %v", v, ok)
	}
	for _, n := range []int{7, 0, -1, 11, math.MaxInt, math.MinInt} {
		if v, ok := x.Node(n); !none(v, ok) {
			t.Errorf("Node(%d): %v, %v", n, v, ok)
		}
	}
}

// none: there is no node, and nothing is told of it.
func none(v node.Node, ok bool) bool {
	return !ok && v.Type == 0 && v.Links == 0 && v.Size == 0 && len(v.Runs) == 0
}

func TestNodeNotGood(t *testing.T) {
	for i, v := range []node.Node{
		file(1, 65, run(52, 1)), file(1, 64), file(1, 64, run(41, 1)), file(1, 64, run(63, 1)), file(1, 128, run(52, 1), run(52, 1)), file(1, 4097, run(42, 21)),
		file(3, 0), file(3, 401, run(52, 7)), file(2, 3), file(2, 11, run(32, 10), run(52, 1)),
		{Type: 1}, {Type: 2}, {Type: 1, Links: api.MaxLinks + 1},
	} {
		l := some(t)
		put(l, 27, node.Put(v))
		if _, ok := node.Get(l[8*27 : 8*28]...); !ok {
			t.Errorf("number %d: node's Get tells none", i)
		}
		x := open(t, l)
		if got, ok := x.Node(6); !none(got, ok) {
			t.Errorf("number %d: %v, %v", i, got, ok)
		}
		if len(x.Slots(6)) != 0 || len(x.Content(6)) != 0 {
			t.Errorf("number %d: slots %v, content %v", i, x.Slots(6), x.Content(6))
		}
		if tr, err := x.Tree(); tr != nil || err != api.EFORM {
			t.Errorf("number %d: Tree: %v", i, err)
		}
	}
}

func TestSlots(t *testing.T) {
	l := some(t)
	put(l, 27, node.Put(file(2, 2, run(52, 1)))) // not Good
	x := open(t, l)
	for n, want := range map[int][]slot.Slot{
		1: {{Node: 3, Name: "f"}, {Node: 5, Name: "d"}}, 2: {{}, {}, {Node: 3, Name: "#3"}, {}, {}, {}, {}, {}, {}, {}}, 5: {{Node: 4, Name: "l"}, {}, {}},
		3: nil, 4: nil, 6: nil, 10: nil, 0: nil, -1: nil, 11: nil, math.MaxInt: nil,
	} {
		if got := x.Slots(n); !slices.Equal(got, want) {
			t.Errorf("Slots(%d): %v", n, got)
		}
	}
}

func TestContent(t *testing.T) {
	l := some(t)
	put(l, 27, node.Put(file(1, 65, run(52, 1)))) // not Good
	x := open(t, l)
	want := append(bytes.Repeat([]byte{1, 0, 0, 0, 0, 0, 0, 0}, 8), append([]byte("ab"), make([]byte, 34)...)...)
	if got := x.Content(3); !bytes.Equal(got, want) {
		t.Errorf("Content(3): %v", got)
	}
	if got := x.Content(4); string(got) != "..klm" {
		t.Errorf("Content(4): %q", got)
	}
	for _, n := range []int{1, 2, 5, 6, 10, 0, -1, 11, math.MinInt} {
		if len(x.Content(n)) != 0 {
			t.Errorf("Content(%d): %v", n, x.Content(n))
		}
	}
}

func TestBits(t *testing.T) {
	x := open(t, made(t, plain))
	b := x.Bits()
	if len(b.L) != 8 || bits.Count(b) != 43 || bits.Has(b, 42) || !bits.Has(b, 41) || !bits.Has(b, 63) {
		t.Errorf("Bits: %x", b.L)
	}
	b.L[0] = 0
	if bits.Count(x.Bits()) != 43 {
		t.Error("Bits shares its words")
	}
	l := made(t, geom.Plain(1024))
	l[8*21+15] = math.MaxUint64
	if b := open(t, l).Bits(); len(b.L) != 16 || b.L[15] != math.MaxUint64 {
		t.Errorf("Bits of two blocks: %x", b.L)
	}
}

func TestTree(t *testing.T) {
	l := some(t)
	x, err := open(t, l).Tree()
	if err != api.OK {
		t.Fatal(err)
	}
	content := append(bytes.Repeat([]byte{1, 0, 0, 0, 0, 0, 0, 0}, 8), append([]byte("ab"), make([]byte, 34)...)...)
	want, err := tree.Build(10,
		tree.Part{Node: 1, Type: 2, Names: []tree.Name{{Name: "f", Node: 3}, {Name: "d", Node: 5}}}, tree.Part{Node: 2, Type: 2, Names: []tree.Name{{Name: "#3", Node: 3}}},
		tree.Part{Node: 3, Type: 1, Data: content}, tree.Part{Node: 4, Type: 3, Data: []byte("..klm")}, tree.Part{Node: 5, Type: 2, Names: []tree.Name{{Name: "l", Node: 4}}})
	if err != api.OK || !tree.Same(x, want) {
		t.Errorf("Tree: %v, %v", x.Parts(), err)
	}
}

func TestTreeRefused(t *testing.T) {
	long := strings.Repeat("x", 40)
	for what, c := range map[string]struct {
		block int
		words []uint64
		ok    bool
	}{
		"Links do not count":    {24, node.Put(node.Node{Type: 1, Links: 9, Size: 64, Runs: []node.Run{{From: 45, Len: 1}}}), true},
		"a node that is none":   {31, []uint64{1}, false},
		"a node not Good":       {31, node.Put(file(1, 64)), false},
		"a free one with a sum": {31, append(make([]uint64, 7), seal.Of(make([]uint64, 7)...)), false},
		"a File without a name": {31, node.Put(file(1, 0)), false},
		"Root a File":           {22, node.Put(file(1, 0)), false},
		"no Root":               {22, make([]uint64, 8), false},
		"no Lost":               {23, make([]uint64, 8), false},
		"another Lost":          {23, node.Put(file(2, 0)), true},
		"a name of none":        {61, slot.Put(slot.Slot{Node: 9, Name: "d"}), false},
		"a name of a great one": {61, slot.Put(slot.Slot{Node: 64, Name: "d"}), false},
		"a name twice":          {48, slot.Put(slot.Slot{Node: 4, Name: "l"}), false},
		"a name more":           {48, slot.Put(slot.Slot{Node: 4, Name: long}), true},
		"a slot that is none":   {48, []uint64{1, 1, 1}, true},
		"a wrong name in Lost":  {34, slot.Put(slot.Slot{Node: 4, Name: "#3"}), false},
		"another place in Lost": {40, slot.Put(slot.Slot{Node: 4, Name: "#4"}), true},
	} {
		l := some(t)
		put(l, c.block, c.words)
		x, err := open(t, l).Tree()
		if (err == api.OK) != c.ok || (x != nil) != c.ok || (!c.ok && err != api.EFORM) {
			t.Errorf("%s: %v", what, err)
		}
	}
}
