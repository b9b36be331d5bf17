package geom_test

import (
	"math"
	"testing"

	"lintel/geom"
)

func two(from, n int) [2]int { return [2]int{from, n} }

func TestPlain(t *testing.T) {
	g := geom.Plain(64)
	if g != (geom.Geom{Blocks: 64, Nodes: 10, Clients: 1, Book: 20}) || !geom.Good(g) {
		t.Fatal(g)
	}
	if two(geom.Books(g, 0)) != two(1, 20) || two(geom.Bits(g)) != two(21, 1) || two(geom.Lost(g)) != two(32, 10) || two(geom.Data(g)) != two(42, 21) {
		t.Error("where the parts stand")
	}
	if geom.Node(g, 1) != 22 || geom.Node(g, 10) != 31 || geom.Back(g) != 63 {
		t.Error("where nodes and the last block stand")
	}
	for _, blocks := range []int{0, -7, math.MaxInt, math.MinInt} {
		if g := geom.Plain(blocks); g != (geom.Geom{Blocks: blocks, Nodes: 10, Clients: 1, Book: 20}) || geom.Good(g) {
			t.Errorf("Plain(%d): %v", blocks, g)
		}
	}
}

func TestGood(t *testing.T) {
	for _, c := range []struct {
		g    geom.Geom
		good bool
	}{
		{geom.Geom{Blocks: 64, Nodes: 10, Clients: 1, Book: 20}, true},
		{geom.Geom{Blocks: 63, Nodes: 10, Clients: 1, Book: 20}, false},
		{geom.Geom{Blocks: 1024, Nodes: 64, Clients: 8, Book: 110}, true},
		{geom.Geom{Blocks: 1024, Nodes: 64, Clients: 8, Book: 16}, true},
		{geom.Geom{Blocks: 1025, Nodes: 64, Clients: 8, Book: 16}, false},
		{geom.Geom{Blocks: 64, Nodes: 4, Clients: 1, Book: 16}, true},
		{geom.Geom{Blocks: 64, Nodes: 3, Clients: 1, Book: 16}, false},
		{geom.Geom{Blocks: 1024, Nodes: 65, Clients: 1, Book: 16}, false},
		{geom.Geom{Blocks: 1024, Nodes: 10, Clients: 0, Book: 16}, false},
		{geom.Geom{Blocks: 1024, Nodes: 10, Clients: 9, Book: 16}, false},
		{geom.Geom{Blocks: 1024, Nodes: 10, Clients: 1, Book: 15}, false},
		{geom.Geom{Blocks: 1024, Nodes: 10, Clients: 1, Book: 110}, true},
		{geom.Geom{Blocks: 1024, Nodes: 10, Clients: 1, Book: 111}, false},
		{geom.Geom{Blocks: 64, Nodes: 20, Clients: 1, Book: 20}, true},  // one block of data
		{geom.Geom{Blocks: 64, Nodes: 20, Clients: 1, Book: 21}, false}, // none
		{geom.Geom{}, false},
		{geom.Geom{Blocks: -64, Nodes: -10, Clients: -1, Book: -20}, false},
		{geom.Geom{Blocks: math.MaxInt, Nodes: math.MaxInt, Clients: math.MaxInt, Book: math.MaxInt}, false},
		{geom.Geom{Blocks: 64, Nodes: 10, Clients: math.MinInt, Book: 20}, false},
	} {
		if geom.Good(c.g) != c.good {
			t.Errorf("Good(%v): %v", c.g, !c.good)
		}
		if c.good {
			adjoin(t, c.g)
		} else {
			nothing(t, c.g)
		}
	}
}

// adjoin: the parts stand one behind the other, and fill all blocks.
func adjoin(t *testing.T, g geom.Geom) {
	t.Helper()
	at := 1
	part := func(what string, from, n int) {
		if from != at || n < 1 {
			t.Errorf("%v: %s at %d, %d of them; not at %d", g, what, from, n, at)
		}
		at = from + n
	}
	for client := range g.Clients {
		from, n := geom.Books(g, client)
		part("a book", from, n)
		if n != g.Book {
			t.Errorf("%v: a book of %d", g, n)
		}
	}
	from, n := geom.Bits(g)
	part("the bits", from, n)
	if n*512 < g.Blocks || (n-1)*512 >= g.Blocks {
		t.Errorf("%v: bits of %d blocks", g, n)
	}
	for node := 1; node <= g.Nodes; node++ {
		part("a node", geom.Node(g, node), 1)
	}
	from, n = geom.Lost(g)
	part("the lost slots", from, n)
	if n != g.Nodes {
		t.Errorf("%v: %d lost slots", g, n)
	}
	from, n = geom.Data(g)
	part("the data", from, n)
	part("the last block", geom.Back(g), 1)
	if at != g.Blocks {
		t.Errorf("%v: %d blocks in all", g, at)
	}
	for _, none := range []int{-1, g.Clients, math.MaxInt, math.MinInt} {
		if two(geom.Books(g, none)) != two(0, 0) {
			t.Errorf("%v: a book of client %d", g, none)
		}
	}
	for _, none := range []int{-1, 0, g.Nodes + 1, math.MaxInt, math.MinInt} {
		if geom.Node(g, none) != 0 {
			t.Errorf("%v: a node %d", g, none)
		}
	}
}

// nothing: of what is not Good all calls tell noughts.
func nothing(t *testing.T, g geom.Geom) {
	t.Helper()
	none := two(0, 0)
	if two(geom.Books(g, 0)) != none || two(geom.Bits(g)) != none || two(geom.Lost(g)) != none || two(geom.Data(g)) != none || geom.Node(g, 1) != 0 || geom.Back(g) != 0 {
		t.Errorf("%v: something stands", g)
	}
}

func TestBitsEdges(t *testing.T) {
	for blocks, want := range map[int]int{64: 1, 511: 1, 512: 1, 513: 2, 1024: 2} {
		if _, n := geom.Bits(geom.Plain(blocks)); n != want {
			t.Errorf("bits of %d blocks: %d", blocks, n)
		}
		adjoin(t, geom.Plain(blocks))
	}
}
