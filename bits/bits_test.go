package bits_test

import (
	"math"
	"slices"
	"testing"

	"lintel/bits"
)

func TestNew(t *testing.T) {
	for n, want := range map[int]int{math.MinInt: 0, -1: 0, 0: 0, 1: 1, 64: 1, 65: 2, 1024: 16, 65535: 1024, 65536: 1024, 65537: 1024, math.MaxInt: 1024} {
		if b := bits.New(n); len(b.L) != want || bits.Count(b) != 0 {
			t.Errorf("New(%d): %d words", n, len(b.L))
		}
	}
}

// row is some bits of two words: 0, 5, 63, 64, 127.
func row() bits.Bits { return bits.Bits{L: []uint64{1<<63 | 1<<5 | 1, 1<<63 | 1}} }

var none = []int{-1, -64, -65, 128, 192, math.MaxInt, math.MinInt}

func TestHas(t *testing.T) {
	b := row()
	var got []int
	for i := range 128 {
		if bits.Has(b, i) {
			got = append(got, i)
		}
	}
	if !slices.Equal(got, []int{0, 5, 63, 64, 127}) {
		t.Errorf("Has: %d", got)
	}
	for _, i := range none {
		if bits.Has(b, i) || bits.Has(bits.Bits{L: []uint64{math.MaxUint64, math.MaxUint64}}, i) || bits.Has(bits.Bits{}, i) {
			t.Errorf("Has(%d)", i)
		}
	}
}

func TestSet(t *testing.T) {
	b := row()
	on := bits.Set(b, true, append([]int{1, 5, 126, 1}, none...)...)
	off := bits.Set(b, false, append([]int{1, 5, 127}, none...)...)
	if !slices.Equal(on.L, []uint64{1<<63 | 1<<5 | 3, 3<<62 | 1}) || !slices.Equal(off.L, []uint64{1<<63 | 1, 1}) {
		t.Errorf("Set: %x, %x", on.L, off.L)
	}
	if same := bits.Set(b, true); !slices.Equal(same.L, b.L) || &same.L[0] == &b.L[0] {
		t.Error("Set of none is no new row")
	}
	if !slices.Equal(b.L, row().L) {
		t.Error("Set changes what it is given")
	}
	if len(bits.Set(bits.Bits{}, true, 0).L) != 0 {
		t.Error("Set of no row")
	}
}

func TestCount(t *testing.T) {
	if bits.Count(row()) != 5 || bits.Count(bits.Bits{}) != 0 || bits.Count(bits.Bits{L: []uint64{math.MaxUint64, 0, math.MaxUint64}}) != 128 {
		t.Errorf("Count: %d", bits.Count(row()))
	}
}

func TestNext(t *testing.T) {
	b := row()
	for _, c := range []struct {
		yes       bool
		from, end int
		want      int
		ok        bool
	}{
		{true, 0, 128, 0, true}, {true, 1, 128, 5, true}, {true, 5, 6, 5, true}, {true, 6, 63, 0, false}, {true, 6, 64, 63, true}, {true, 64, 65, 64, true}, {true, 65, 127, 0, false},
		{true, 65, math.MaxInt, 127, true}, {true, 128, math.MaxInt, 0, false}, {true, math.MinInt, math.MaxInt, 0, true}, {true, -5, 0, 0, false}, {true, 0, 0, 0, false}, {true, 5, 5, 0, false}, {true, 9, 3, 0, false}, {true, 0, math.MinInt, 0, false},
		{false, 0, 128, 1, true}, {false, 63, 128, 65, true}, {false, 63, 65, 0, false}, {false, 127, 128, 0, false}, {false, 127, math.MaxInt, 0, false}, {false, -9, 2, 1, true}, {false, math.MaxInt, math.MaxInt, 0, false},
	} {
		if got, ok := bits.Next(b, c.yes, c.from, c.end); got != c.want || ok != c.ok {
			t.Errorf("Next(%v, %d, %d): %d, %v", c.yes, c.from, c.end, got, ok)
		}
	}
	if got, ok := bits.Next(bits.Set(bits.New(8), true, 1, 3), true, 2, 8); got != 3 || !ok {
		t.Errorf("the document's example: %d", got)
	}
}

func TestFree(t *testing.T) {
	b := row()
	for _, c := range []struct {
		from, end, n int
		want         int
		ok           bool
	}{
		{0, 128, 1, 1, true}, {0, 128, 4, 1, true}, {0, 128, 5, 6, true}, {0, 128, 57, 6, true}, {0, 128, 58, 65, true}, {0, 128, 62, 65, true}, {0, 128, 63, 0, false},
		{3, 128, 3, 6, true}, {0, 5, 4, 1, true}, {0, 4, 4, 0, false}, {65, 126, 61, 65, true}, {66, 127, 61, 66, true}, {66, 127, 62, 0, false}, {math.MinInt, math.MaxInt, 62, 65, true}, {128, math.MaxInt, 1, 0, false},
		{0, 128, 0, 0, false}, {0, 128, -1, 0, false}, {0, 128, math.MinInt, 0, false}, {0, 128, math.MaxInt, 0, false}, {9, 3, 1, 0, false}, {9, 9, 1, 0, false}, {math.MaxInt, math.MaxInt, 1, 0, false},
	} {
		if got, ok := bits.Free(b, c.from, c.end, c.n); got != c.want || ok != c.ok {
			t.Errorf("Free(%d, %d, %d): %d, %v", c.from, c.end, c.n, got, ok)
		}
	}
	if got, ok := bits.Free(bits.New(64), 0, 100, 64); got != 0 || !ok {
		t.Errorf("Free of all: %d, %v", got, ok)
	}
	if _, ok := bits.Free(bits.New(64), 0, 100, 65); ok {
		t.Error("Free of more than there are")
	}
}
