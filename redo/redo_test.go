package redo_test

import (
	"math"
	"slices"
	"testing"

	"lintel/redo"
	"lintel/seal"
)

// many tells a record of n writes.
func many(n int) redo.Rec {
	r := redo.Rec{Num: 9}
	for i := range n {
		r.L = append(r.L, redo.Write{At: i * 3, V: uint64(i) << 50})
	}
	return r
}

func same(a, b redo.Rec) bool { return a.Num == b.Num && slices.Equal(a.L, b.L) }

func TestPut(t *testing.T) {
	want := []uint64{7, 2, 5, 99, 0, math.MaxUint64}
	want = append(want, seal.Of(want...))
	r := redo.Rec{Num: 7, L: []redo.Write{{At: 5, V: 99}, {At: 0, V: math.MaxUint64}}}
	if got := redo.Put(r); !slices.Equal(got, want) {
		t.Errorf("Put: %x", got)
	}
	if got, ok := redo.Get(want...); !ok || !same(got, r) {
		t.Errorf("Get: %v", got)
	}
}

func TestPutEdges(t *testing.T) {
	at := func(at int) redo.Rec { return redo.Rec{Num: 1, L: []redo.Write{{At: 3}, {At: at}}} }
	for i, c := range []struct {
		r    redo.Rec
		size int
	}{
		{redo.Rec{}, 0}, {redo.Rec{Num: 1}, 3}, {redo.Rec{Num: math.MaxUint64}, 3}, {redo.Rec{L: many(1).L}, 0}, {many(1), 5}, {many(400), 803}, {many(401), 0},
		{at(0), 7}, {at(-1), 0}, {at(1 << 20), 7}, {at(1<<20 + 1), 0}, {at(math.MaxInt), 0}, {at(math.MinInt), 0},
	} {
		l := redo.Put(c.r)
		if len(l) != c.size || redo.Size(c.r) != c.size {
			t.Errorf("record %d: %d words, Size %d", i, len(l), redo.Size(c.r))
		}
		if got, ok := redo.Get(l...); ok != (c.size != 0) || (ok && !same(got, c.r)) {
			t.Errorf("record %d: Get tells %v, %v", i, got, ok)
		}
	}
}

func sealed(l ...uint64) []uint64 { return append(slices.Clone(l), seal.Of(l...)) }

func TestGet(t *testing.T) {
	for _, n := range []int{0, 1, 3, 400} {
		l := redo.Put(many(n))
		if got, ok := redo.Get(append(slices.Clone(l), 1, 2, 3)...); !ok || !same(got, many(n)) {
			t.Errorf("%d writes and more words: %v", n, ok)
		}
		for _, short := range []int{0, 1, 2, len(l) - 1} {
			if got, ok := redo.Get(l[:short]...); ok || !same(got, redo.Rec{}) {
				t.Errorf("%d writes, %d words: %v", n, short, got)
			}
		}
		for i := range min(len(l), 20) {
			other := slices.Clone(l)
			other[i] ^= 1 << 33
			if got, ok := redo.Get(other...); ok || !same(got, redo.Rec{}) {
				t.Errorf("%d writes, word %d changed: %v", n, i, got)
			}
		}
	}
	long := []uint64{9, 401}
	long = append(long, make([]uint64, 802)...)
	for i, l := range [][]uint64{sealed(0, 0), sealed(0, 1, 5, 5), sealed(1, 1, 1<<20+1, 5), sealed(1, 1, math.MaxUint64, 5), sealed(1, math.MaxUint64), sealed(1, 1<<63), sealed(1, 2, 5, 5), sealed(long...), make([]uint64, 9)} {
		if got, ok := redo.Get(l...); ok || !same(got, redo.Rec{}) {
			t.Errorf("words %d: %v", i, got)
		}
	}
}

func TestDo(t *testing.T) {
	image := []uint64{1, 2, 3}
	got := redo.Do(image, redo.Write{At: 0, V: 5}, redo.Write{At: 3, V: 6}, redo.Write{At: -1, V: 7}, redo.Write{At: 2, V: 8}, redo.Write{At: 0, V: 9}, redo.Write{At: math.MaxInt}, redo.Write{At: math.MinInt})
	if !slices.Equal(got, []uint64{9, 2, 8}) || !slices.Equal(image, []uint64{1, 2, 3}) {
		t.Errorf("Do: %d of %d", got, image)
	}
	copied := redo.Do(image)
	copied[0] = 77
	if image[0] != 1 || len(redo.Do(nil, redo.Write{})) != 0 {
		t.Error("Do of none")
	}
}

func TestSame(t *testing.T) {
	a, b := []uint64{1, 2, 3, 4}, []uint64{1, 7, 3, 8}
	l, ok := redo.Same(a, b)
	if !ok || !slices.Equal(l, []redo.Write{{At: 1, V: 7}, {At: 3, V: 8}}) || !slices.Equal(redo.Do(a, l...), b) {
		t.Errorf("Same: %v", l)
	}
	if l, ok := redo.Same(a, a); !ok || len(l) != 0 {
		t.Errorf("Same of one: %v", l)
	}
	if l, ok := redo.Same(nil, nil); !ok || len(l) != 0 {
		t.Errorf("Same of none: %v", l)
	}
	if l, ok := redo.Same(a, b[:3]); ok || len(l) != 0 {
		t.Errorf("Same of other lengths: %v", l)
	}
	ones := slices.Repeat([]uint64{1}, 401)
	if l, ok := redo.Same(make([]uint64, 400), ones[:400]); !ok || len(l) != 400 {
		t.Errorf("Same of 400: %d", len(l))
	}
	if l, ok := redo.Same(make([]uint64, 401), ones); ok || len(l) != 0 {
		t.Errorf("Same of 401: %d", len(l))
	}
	ones[7] = 0
	if l, ok := redo.Same(make([]uint64, 401), ones); !ok || len(l) != 400 {
		t.Errorf("Same of 401 words, one alike: %d", len(l))
	}
}
