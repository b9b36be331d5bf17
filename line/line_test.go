package line_test

import (
	"math"
	"slices"
	"testing"

	"lintel/line"
)

func newest(x *line.Line) []uint64 {
	var l []uint64
	for at := range 8 {
		l = append(l, x.Load(at))
	}
	return l
}

// holds tells whether a line has just these words, newest and sure, and so many open stores.
func holds(t *testing.T, what string, x *line.Line, now, sure []uint64, open int) {
	t.Helper()
	now, sure = append(slices.Clone(now), make([]uint64, 8-len(now))...), append(slices.Clone(sure), make([]uint64, 8-len(sure))...)
	if !slices.Equal(newest(x), now) || !slices.Equal(x.Sure(), sure) || x.Open() != open {
		t.Errorf("%s: %d, sure %d, %d open; not %d, %d, %d", what, newest(x), x.Sure(), x.Open(), now, sure, open)
	}
}

func TestNew(t *testing.T) {
	ten := []uint64{1, 2, 3, 4, 5, 6, 7, 8, 9, 10}
	for n := range 11 {
		x := line.New(ten[:n]...)
		holds(t, "New", x, ten[:min(n, 8)], ten[:min(n, 8)], 0)
		x.Store(0, 77)
		x.Flush()
		x.Fence()
	}
	if ten[0] != 1 {
		t.Error("New keeps what it is given")
	}
	x := line.New(1)
	x.Sure()[0] = 5
	holds(t, "what Sure told, changed", x, []uint64{1}, []uint64{1}, 0)
}

func TestStore(t *testing.T) {
	x := line.New(1, 2)
	for _, at := range []int{-1, 8, math.MaxInt, math.MinInt} {
		if x.Store(at, 9) || x.Load(at) != 0 {
			t.Errorf("a word %d", at)
		}
	}
	holds(t, "refused", x, []uint64{1, 2}, []uint64{1, 2}, 0)
	if !x.Store(0, 5) || !x.Store(7, 6) || !x.Store(0, 7) || !x.Store(0, 7) {
		t.Error("refused")
	}
	holds(t, "stored", x, []uint64{7, 2, 0, 0, 0, 0, 0, 6}, []uint64{1, 2}, 4)
}

func TestFence(t *testing.T) {
	x := line.New(1, 2)
	x.Store(0, 5)
	x.Fence()
	holds(t, "a fence alone", x, []uint64{5, 2}, []uint64{1, 2}, 1)
	x.Flush()
	holds(t, "flushed", x, []uint64{5, 2}, []uint64{1, 2}, 1)
	x.Store(1, 6)
	x.Store(0, 7)
	x.Fence()
	holds(t, "the flushed one fenced", x, []uint64{7, 6}, []uint64{5, 2}, 2)
	x.Fence()
	holds(t, "fenced again", x, []uint64{7, 6}, []uint64{5, 2}, 2)
	x.Flush()
	x.Flush()
	x.Fence()
	holds(t, "all fenced", x, []uint64{7, 6}, []uint64{7, 6}, 0)
}

func TestFall(t *testing.T) {
	for keep, want := range map[int][]uint64{
		math.MinInt: {1, 2}, -1: {1, 2}, 0: {1, 2}, 1: {5, 2}, 2: {5, 6}, 3: {7, 6}, 4: {7, 6, 8}, 5: {7, 6, 8}, math.MaxInt: {7, 6, 8},
	} {
		x := line.New(1, 2)
		x.Store(0, 5)
		x.Store(1, 6)
		x.Flush() // flushed alone is not sure
		x.Store(0, 7)
		x.Store(2, 8)
		x.Fall(keep)
		holds(t, "fallen", x, want, want, 0)
		x.Store(3, 9)
		x.Fence() // nothing is flushed behind a fall
		x.Fall(0)
		holds(t, "a fence behind the fall", x, want, want, 0)
	}
	x := line.New()
	x.Store(0, 1)
	x.Store(0, 2)
	x.Fall(1)
	holds(t, "the document's example", x, []uint64{1}, []uint64{1}, 0)
}

func TestFallBehindFence(t *testing.T) {
	x := line.New()
	x.Store(0, 1)
	x.Flush()
	x.Fence()
	x.Store(0, 2)
	x.Store(0, 3)
	x.Fall(1)
	holds(t, "only the open ones count", x, []uint64{2}, []uint64{2}, 0)
}
