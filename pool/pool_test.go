package pool_test

import (
	"math"
	"slices"
	"testing"

	"lintel/api"
	"lintel/bits"
	"lintel/geom"
	"lintel/node"
	"lintel/pool"
	"lintel/runs"
)

// data is where the data of plain begin; there are 21 blocks of them.
const data = 42

var (
	plain = geom.Geom{Blocks: 64, Nodes: 10, Clients: 1, Book: 20}
	three = geom.Geom{Blocks: 128, Nodes: 10, Clients: 3, Book: 16}
)

func list(l ...int) []node.Run {
	var out []node.Run
	for i := 0; i < len(l); i += 2 {
		out = append(out, node.Run{From: l[i], Len: l[i+1]})
	}
	return out
}

// taken is a row in which all is taken but these places of the data of plain.
func taken(free ...int) bits.Bits {
	b := bits.Bits{L: []uint64{math.MaxUint64}}
	for i := range free {
		free[i] += data
	}
	return bits.Set(b, false, free...)
}

func open(t *testing.T, g geom.Geom, b bits.Bits) *pool.Pool {
	t.Helper()
	p, err := pool.New(g, b)
	if err != api.OK {
		t.Fatal(err)
	}
	return p
}

func TestNew(t *testing.T) {
	for _, c := range []struct {
		g     geom.Geom
		words int
		want  api.Errno
	}{
		{plain, 1, api.OK}, {plain, 8, api.OK}, {plain, 0, api.EARG}, {geom.Plain(65), 1, api.EARG}, {geom.Plain(65), 2, api.OK}, {geom.Plain(128), 2, api.OK}, {geom.Plain(1024), 15, api.EARG}, {geom.Plain(1024), 16, api.OK},
		{geom.Plain(63), 16, api.EARG}, {geom.Geom{}, 16, api.EARG},
	} {
		p, err := pool.New(c.g, bits.Bits{L: make([]uint64, c.words)})
		if err != c.want || (p == nil) != (err != api.OK) {
			t.Errorf("New(%v) with %d words: %v", c.g, c.words, err)
		}
	}
	b := bits.New(512)
	p := open(t, plain, b)
	b.L[0] = math.MaxUint64
	p.Bits().L[0] = math.MaxUint64
	if p.Free() != 21 || bits.Count(p.Bits()) != 0 || len(p.Bits().L) != 8 {
		t.Errorf("the bits are shared: %d free", p.Free())
	}
}

func TestGroup(t *testing.T) {
	p := open(t, three, bits.New(128)) // data: 70 to 126, 57 of them
	for client, want := range map[int][2]int{0: {70, 19}, 1: {89, 19}, 2: {108, 19}, 3: {0, 0}, -1: {0, 0}, math.MaxInt: {0, 0}, math.MinInt: {0, 0}} {
		if from, n := p.Group(client); from != want[0] || n != want[1] {
			t.Errorf("Group(%d): %d, %d", client, from, n)
		}
	}
	rest := three
	rest.Blocks = 130 // 59 of them
	p = open(t, rest, bits.New(130))
	for client, want := range map[int][2]int{0: {70, 19}, 1: {89, 19}, 2: {108, 21}} {
		if from, n := p.Group(client); from != want[0] || n != want[1] {
			t.Errorf("Group(%d) with a rest: %d, %d", client, from, n)
		}
	}
}

func TestTakeRefused(t *testing.T) {
	p := open(t, three, bits.New(128))
	for _, c := range [][3]int{{-1, 1, 1}, {3, 1, 1}, {math.MaxInt, 1, 1}, {0, -1, 1}, {0, math.MinInt, 1}, {0, 1, 0}, {0, 1, -1}, {0, 0, 0}, {9, -1, 0}} {
		if l, err := p.Take(c[0], c[1], c[2]); err != api.EARG || len(l) != 0 {
			t.Errorf("Take(%d): %v, %v", c, l, err)
		}
	}
	for _, n := range []int{58, 1000, math.MaxInt} {
		if l, err := p.Take(0, n, 4); err != api.ENOSPC || len(l) != 0 {
			t.Errorf("Take of %d: %v, %v", n, l, err)
		}
	}
	if p.Free() != 57 || bits.Count(p.Bits()) != 0 {
		t.Errorf("what was refused took blocks: %d free", p.Free())
	}
}

func TestTakeAll(t *testing.T) {
	for client := range 3 {
		p := open(t, three, bits.New(128))
		if l, err := p.Take(client, 57, 1); err != api.OK || !slices.Equal(l, list(70, 57)) {
			t.Errorf("Take of all by %d: %v, %v", client, l, err)
		}
		if l, err := p.Take(client, 1, 9); err != api.ENOSPC || len(l) != 0 {
			t.Errorf("Take of one more by %d: %v, %v", client, l, err)
		}
		if l, err := p.Take(client, 0, 1); err != api.OK || len(l) != 0 {
			t.Errorf("Take of none: %v, %v", l, err)
		}
		if p.Free() != 0 || bits.Count(p.Bits()) != 57 {
			t.Errorf("%d free, %d taken", p.Free(), bits.Count(p.Bits()))
		}
	}
	if l, err := open(t, plain, bits.New(64)).Take(0, 3, 1); err != api.OK || len(l) != 1 || l[0].Len != 3 {
		t.Errorf("the document's example: %v, %v", l, err)
	}
}

func TestOwnGroup(t *testing.T) {
	for client, from := range []int{70, 89, 108} {
		p := open(t, three, bits.New(128))
		for i := range 19 {
			if l, err := p.Take(client, 1, 1); err != api.OK || !slices.Equal(l, list(from+i, 1)) {
				t.Errorf("Take of client %d: %v, %v", client, l, err)
			}
		}
		if l, err := p.Take(client, 1, 1); err != api.OK || len(l) != 1 { // its group is full
			t.Errorf("Take of client %d elsewhere: %v, %v", client, l, err)
		}
	}
}

// least tells in how few runs n free places can be had, by trying all sets of gaps; 0: not at all.
func least(gaps []int, n int) int {
	best := 0
	for set := range 1 << len(gaps) {
		sum, count := 0, 0
		for i, len := range gaps {
			if set>>i&1 == 1 {
				sum += len
				count++
			}
		}
		if sum >= n && (best == 0 || count < best) {
			best = count
		}
	}
	return best
}

func TestTakeFewest(t *testing.T) {
	// gaps of 1, 3, 2, 5, 1
	free := []int{0, 2, 3, 4, 6, 7, 9, 10, 11, 12, 13, 20}
	for n := 1; n <= 13; n++ {
		want := least([]int{1, 3, 2, 5, 1}, n)
		for most := 1; most <= 6; most++ {
			p := open(t, plain, taken(slices.Clone(free)...))
			l, err := p.Take(0, n, most)
			if want == 0 || want > most {
				if err != api.ENOSPC || len(l) != 0 || p.Free() != 12 {
					t.Errorf("Take(%d, %d): %v, %v", n, most, l, err)
				}
				continue
			}
			if err != api.OK || len(l) != want || runs.Total(l) != n || !runs.Apart(l) || !slices.Equal(l, runs.Merge(l)) {
				t.Errorf("Take(%d, %d): %v, %v, not %d runs", n, most, l, err, want)
			}
			tookJust(t, p, taken(slices.Clone(free)...), l)
		}
	}
}

// tookJust: these blocks were free, and they alone are taken behind it.
func tookJust(t *testing.T, p *pool.Pool, was bits.Bits, l []node.Run) {
	t.Helper()
	var all []int
	for i := range runs.Total(l) {
		at, _ := runs.At(l, i)
		all = append(all, at)
		if bits.Has(was, at) {
			t.Errorf("block %d was not free", at)
		}
	}
	if !slices.Equal(p.Bits().L, bits.Set(was, true, all...).L) {
		t.Errorf("Bits behind Take of %v: %x", l, p.Bits().L)
	}
	if p.Free() != 64-bits.Count(p.Bits()) {
		t.Errorf("Free behind Take of %v: %d", l, p.Free())
	}
}

func TestTakeDataAlone(t *testing.T) {
	p := open(t, plain, bits.New(64)) // the bits of what is no data are not set, but it is not given out
	if p.Free() != 21 {
		t.Errorf("Free: %d", p.Free())
	}
	if _, err := p.Take(0, 22, 9); err != api.ENOSPC {
		t.Errorf("Take of more than the data: %v", err)
	}
	if l, err := p.Take(0, 21, 1); err != api.OK || !slices.Equal(l, list(data, 21)) {
		t.Errorf("Take of the data: %v, %v", l, err)
	}
}

func TestGive(t *testing.T) {
	some := func() *pool.Pool { return open(t, plain, taken(3, 4, 5)) }
	for _, l := range [][]node.Run{
		list(data-1, 1), list(data-1, 2), list(data+20, 2), list(data+21, 1), list(0, 1), list(-1, 1), list(math.MaxInt, 1), list(math.MinInt, 1), list(data, math.MaxInt), list(63, 1),
		list(data+3, 1), list(data+2, 2), list(data+5, 2), list(data, 9),
		list(data, 1, data, 1), list(data, 2, data+1, 1), list(data+7, 1, data+6, 3), list(data, 1, data+3, 1), list(data, 1, 0, 1),
	} {
		p := some()
		if err := p.Give(l...); err != api.EARG || p.Free() != 3 || !slices.Equal(p.Bits().L, taken(3, 4, 5).L) {
			t.Errorf("Give(%v): %v, %d free", l, err, p.Free())
		}
	}
	p := some()
	if err := p.Give(list(data, 2, data+20, 1, data+6, 2)...); err != api.OK || p.Free() != 8 || !slices.Equal(p.Bits().L, taken(3, 4, 5, 0, 1, 20, 6, 7).L) {
		t.Errorf("Give: %v, %d free", err, p.Free())
	}
	for _, l := range [][]node.Run{nil, list(data, 0), list(-5, 0, data, -1, math.MaxInt, math.MinInt)} { // no block at all
		if err := p.Give(l...); err != api.OK || p.Free() != 8 {
			t.Errorf("Give of none, %v: %v", l, err)
		}
	}
	if l, err := p.Take(0, 5, 1); err != api.OK || !slices.Equal(l, list(data+3, 5)) {
		t.Errorf("Take of what was given back: %v, %v", l, err)
	}
}

func TestGiveAndTake(t *testing.T) {
	p := open(t, three, bits.New(128))
	var held [][]node.Run
	free := 57
	for i := range 200 {
		n := i*7%5 + 1
		if l, err := p.Take(i%3, n, 4); err == api.OK {
			held = append(held, l)
			free -= n
		}
		if i%4 == 3 || p.Free() < 5 {
			at := i * 5 % len(held)
			free += runs.Total(held[at])
			if err := p.Give(held[at]...); err != api.OK {
				t.Fatal(err)
			}
			held = slices.Delete(held, at, at+1)
		}
		if p.Free() != free {
			t.Fatalf("%d free, not %d", p.Free(), free)
		}
		if !runs.Apart(slices.Concat(held...)) {
			t.Fatal("a block was given out twice")
		}
	}
}
