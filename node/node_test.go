package node_test

import (
	"math"
	"slices"
	"testing"

	"lintel/geom"
	"lintel/node"
	"lintel/seal"
)

type run = node.Run

func same(a, b node.Node) bool {
	return a.Type == b.Type && a.Links == b.Links && a.Size == b.Size && slices.Equal(a.Runs, b.Runs)
}

func TestPut(t *testing.T) {
	n := node.Node{Type: 1, Links: 0x123456, Size: 1 << 40, Runs: []run{{5, 6}, {0, 1}, {1 << 31, 1 << 31}}}
	want := []uint64{0x12345601, 1 << 40, 6<<32 | 5, 1 << 32, 1<<63 | 1<<31, 0, 0}
	want = append(want, seal.Of(want...))
	if got := node.Put(n); !slices.Equal(got, want) {
		t.Errorf("Put: %x", got)
	}
	if got, ok := node.Get(want...); !ok || !same(got, n) {
		t.Errorf("Get: %v", got)
	}
	for _, free := range []node.Node{{}, {Runs: []run{}}} {
		if got := node.Put(free); !slices.Equal(got, make([]uint64, 8)) {
			t.Errorf("Put of a free one: %x", got)
		}
	}
	if got, ok := node.Get(make([]uint64, 8)...); !ok || !same(got, node.Node{}) {
		t.Errorf("Get of a free one: %v", got)
	}
}

func TestPutEdges(t *testing.T) {
	four := []run{{1, 1}, {2, 1}, {3, 1}, {4, 1}}
	for _, c := range []struct {
		n  node.Node
		ok bool
	}{
		{node.Node{Type: 1}, true}, {node.Node{Type: 2}, true}, {node.Node{Type: 3}, true}, {node.Node{Type: 4}, false}, {node.Node{Type: -1}, false}, {node.Node{Type: 257}, false},
		{node.Node{Type: math.MinInt}, false}, {node.Node{Type: math.MaxInt}, false},
		{node.Node{Type: 1, Links: 1<<24 - 1}, true}, {node.Node{Type: 1, Links: 1 << 24}, false}, {node.Node{Type: 1, Links: -1}, false}, {node.Node{Type: 1, Links: math.MaxInt}, false},
		{node.Node{Type: 1, Size: 1 << 40}, true}, {node.Node{Type: 1, Size: 1<<40 + 1}, false}, {node.Node{Type: 1, Size: -1}, false},
		{node.Node{Type: 1, Runs: four}, true}, {node.Node{Type: 1, Runs: append(slices.Clone(four), run{5, 1})}, false},
		{node.Node{Type: 1, Runs: []run{{0, 0}}}, false}, {node.Node{Type: 1, Runs: []run{{1, 0}}}, false}, {node.Node{Type: 1, Runs: []run{{0, -1}}}, false}, {node.Node{Type: 1, Runs: []run{{-1, 1}}}, false},
		{node.Node{Type: 1, Runs: []run{{1 << 31, 1 << 31}}}, true}, {node.Node{Type: 1, Runs: []run{{1<<31 + 1, 1}}}, false}, {node.Node{Type: 1, Runs: []run{{1, 1<<31 + 1}}}, false},
		{node.Node{Links: 1}, false}, {node.Node{Size: 1}, false}, {node.Node{Runs: []run{{1, 1}}}, false},
	} {
		l := node.Put(c.n)
		if len(l) != 0 != c.ok {
			t.Errorf("Put of %v: %x", c.n, l)
		}
		if got, ok := node.Get(l...); ok != c.ok || (ok && !same(got, c.n)) {
			t.Errorf("Get of Put of %v: %v, %v", c.n, got, ok)
		}
	}
}

func sealed(l ...uint64) []uint64 {
	l = append(slices.Clone(l), make([]uint64, 7-len(l))...)
	return append(l, seal.Of(l...))
}

func TestGet(t *testing.T) {
	if _, ok := node.Get(sealed(1|1<<8, 5, 1<<32, 1<<32|1)...); !ok {
		t.Error("two runs")
	}
	for i, l := range [][]uint64{
		sealed(), sealed(0, 1), sealed(1 << 8), // free ones, but sealed
		sealed(4), sealed(1 | 1<<32), sealed(1 | 1<<63), // another Type; bits above Links
		sealed(1, 1<<40+1), sealed(1, math.MaxUint64), // Size
		sealed(1, 5, 0, 1<<32), sealed(1, 5, 1<<32, 0, 0, 1<<32), // a gap ahead of a run
		sealed(1, 5, 7), sealed(1, 5, 1<<32|1<<31|1), sealed(1, 5, 1<<63|1<<32), // Len 0; From, Len too great
		sealed(1, 5, 0, 0, 0, 0, 1),               // word 6
		make([]uint64, 7), make([]uint64, 9), nil, // not eight words
		{0, 0, 0, 0, 0, 0, 0, 1}, {1, 0, 0, 0, 0, 0, 0, 0},
	} {
		if n, ok := node.Get(l...); ok || !same(n, node.Node{}) {
			t.Errorf("Get of words %d, %x: %v", i, l, n)
		}
	}
	whole := node.Put(node.Node{Type: 2, Links: 1, Size: 3, Runs: []run{{42, 3}}})
	for i := range whole {
		other := slices.Clone(whole)
		other[i] ^= 2
		if _, ok := node.Get(other...); ok {
			t.Errorf("Get with word %d changed", i)
		}
	}
}

func TestBlocksAndNeeds(t *testing.T) {
	if n := node.Blocks(node.Node{Runs: []run{{9, 2}, {5, 3}}}); n != 5 || node.Blocks(node.Node{Type: 1, Size: 99}) != 0 {
		t.Errorf("Blocks: %d", n)
	}
	for _, c := range []struct{ typ, size, want int }{
		{1, 0, 0}, {1, 1, 1}, {1, 64, 1}, {1, 65, 2}, {1, 4096, 64}, {3, 64, 1}, {3, 65, 2}, {2, 0, 0}, {2, 5, 5}, {2, 65, 65},
		{1, -1, 0}, {2, -1, 0}, {3, math.MinInt, 0}, {0, 65, 0}, {4, 65, 0}, {-1, 65, 0}, {1, math.MaxInt, 1 << 57}, {2, math.MaxInt, math.MaxInt},
	} {
		if got := node.Needs(node.Node{Type: c.typ, Size: c.size}); got != c.want {
			t.Errorf("Needs of Type %d, Size %d: %d, not %d", c.typ, c.size, got, c.want)
		}
	}
}

// file has a Size of as many blocks as its runs.
func file(l ...run) node.Node {
	n := node.Node{Type: 1, Links: 1, Runs: l}
	n.Size = 64 * node.Blocks(n)
	return n
}

func TestGood(t *testing.T) {
	g := geom.Plain(64) // data 42 to 62, lost 32 to 41
	wide := geom.Plain(1024)
	for i, c := range []struct {
		g    geom.Geom
		n    node.Node
		good bool
	}{
		{g, node.Node{}, true}, {g, node.Node{Runs: []run{}}, true}, {geom.Plain(63), node.Node{}, false}, {geom.Geom{}, file(), false},
		{g, node.Node{Links: 1}, false}, {g, node.Node{Size: 1}, false}, {g, node.Node{Runs: []run{{42, 1}}}, false},
		{g, node.Node{Type: 4, Links: 1}, false}, {g, node.Node{Type: -1, Links: 1}, false},
		{g, file(), true}, {g, node.Node{Type: 1}, false}, {g, node.Node{Type: 1, Links: 200}, true}, {g, node.Node{Type: 1, Links: 201}, false}, {g, node.Node{Type: 2, Links: -1}, false},
		{g, node.Node{Type: 2, Links: 200}, true}, {g, node.Node{Type: 3, Links: 1}, false},
		{g, file(run{42, 21}), true}, {g, file(run{41, 1}), false}, {g, file(run{62, 1}), true}, {g, file(run{63, 1}), false}, {g, file(run{42, 22}), false}, {g, file(run{-1, 44}), false},
		{g, file(run{42, 1}, run{44, 1}, run{46, 1}, run{48, 1}), true}, {g, file(run{42, 1}, run{44, 1}, run{46, 1}, run{48, 1}, run{50, 1}), false},
		{g, file(run{42, 1}, run{43, 1}), true}, {g, file(run{43, 1}, run{42, 1}), true},
		{g, file(run{42, 2}, run{43, 1}), false}, {g, file(run{43, 1}, run{42, 2}), false}, {g, file(run{50, 1}, run{42, 1}, run{50, 1}), false}, {g, file(run{45, 1}, run{42, 5}), false},
		{g, file(run{42, 0}), false}, {g, file(run{42, 2}, run{50, -1}), false}, {g, file(run{math.MaxInt, 1}), false}, {g, file(run{math.MinInt, 1}), false},
		{g, node.Node{Type: 1, Links: 1, Size: 64, Runs: []run{{42, math.MaxInt}, {43, math.MaxInt}, {44, 3}}}, false},
		{g, node.Node{Type: 1, Links: 1, Size: 1, Runs: []run{{42, 1}}}, true}, {g, node.Node{Type: 1, Links: 1, Size: 65, Runs: []run{{42, 1}}}, false},
		{g, node.Node{Type: 1, Links: 1, Size: 64, Runs: []run{{42, 2}}}, false}, {g, node.Node{Type: 1, Links: 1, Runs: []run{{42, 1}}}, false}, {g, node.Node{Type: 1, Links: 1, Size: -1}, false},
		{wide, node.Node{Type: 1, Links: 1, Size: 4096, Runs: []run{{100, 64}}}, true}, {wide, node.Node{Type: 1, Links: 1, Size: 4097, Runs: []run{{100, 65}}}, false},
		{wide, node.Node{Type: 3, Links: 1, Size: 1, Runs: []run{{100, 1}}}, true}, {wide, node.Node{Type: 3, Links: 1, Size: 400, Runs: []run{{100, 7}}}, true},
		{wide, node.Node{Type: 3, Links: 1, Size: 401, Runs: []run{{100, 7}}}, false}, {wide, node.Node{Type: 3, Links: 1, Size: 0}, false},
		{g, node.Node{Type: 2, Links: 1, Size: 3, Runs: []run{{42, 3}}}, true}, {g, node.Node{Type: 2, Links: 1, Size: 2, Runs: []run{{42, 3}}}, false}, {g, node.Node{Type: 2, Links: 1}, true},
		{wide, node.Node{Type: 2, Links: 1, Size: 900, Runs: []run{{100, 900}}}, true},
		{g, node.Node{Type: 2, Links: 1, Size: 10, Runs: []run{{32, 10}}}, true}, {g, node.Node{Type: 2, Links: 1, Size: 9, Runs: []run{{32, 10}}}, false},
		{g, node.Node{Type: 2, Links: 1, Size: 11, Runs: []run{{32, 10}, {42, 1}}}, false}, {g, node.Node{Type: 2, Links: 1, Size: 9, Runs: []run{{32, 9}}}, false},
		{g, node.Node{Type: 1, Links: 1, Size: 640, Runs: []run{{32, 10}}}, false}, {g, node.Node{Type: 3, Links: 1, Size: 400, Runs: []run{{32, 10}}}, false},
	} {
		was := slices.Clone(c.n.Runs)
		if got := node.Good(c.g, c.n); got != c.good {
			t.Errorf("node %d, %v: %v", i, c.n, got)
		}
		if !slices.Equal(c.n.Runs, was) {
			t.Errorf("node %d: its runs are changed", i)
		}
	}
}
