package slot_test

import (
	"math"
	"slices"
	"strings"
	"testing"

	"lintel/seal"
	"lintel/slot"
)

func TestGood(t *testing.T) {
	long := strings.Repeat("x", 40)
	for _, c := range []struct {
		s    slot.Slot
		good bool
	}{
		{slot.Slot{}, true}, {slot.Slot{Name: "a"}, false}, {slot.Slot{Node: 1}, false}, {slot.Slot{Node: 1, Name: "a"}, true}, {slot.Slot{Node: 64, Name: "a"}, true},
		{slot.Slot{Node: 65, Name: "a"}, false}, {slot.Slot{Node: -1, Name: "a"}, false}, {slot.Slot{Node: math.MaxInt, Name: "a"}, false}, {slot.Slot{Node: math.MinInt, Name: "a"}, false},
		{slot.Slot{Node: 1, Name: long}, true}, {slot.Slot{Node: 1, Name: long + "x"}, false}, {slot.Slot{Node: 1, Name: strings.Repeat(long, 1000)}, false},
		{slot.Slot{Node: 1, Name: "."}, false}, {slot.Slot{Node: 1, Name: ".."}, false}, {slot.Slot{Node: 1, Name: "..."}, true}, {slot.Slot{Node: 1, Name: ".a"}, true},
		{slot.Slot{Node: 1, Name: "a/b"}, false}, {slot.Slot{Node: 1, Name: "/"}, false}, {slot.Slot{Node: 1, Name: "a\x00"}, false}, {slot.Slot{Node: 1, Name: "\x00"}, false},
		{slot.Slot{Node: 1, Name: "a b\xff\x01\n"}, true}, {slot.Slot{Node: 1, Name: "é"}, true},
	} {
		if got := slot.Good(c.s); got != c.good {
			t.Errorf("Good(%+v): %v", c.s, got)
		}
		l := slot.Put(c.s)
		if len(l) != 0 != c.good {
			t.Errorf("Put(%+v): %x", c.s, l)
		}
		if got, ok := slot.Get(l...); ok != c.good || (ok && got != c.s) {
			t.Errorf("Get of Put of %+v: %+v, %v", c.s, got, ok)
		}
	}
}

func TestPut(t *testing.T) {
	want := []uint64{5, 10, 0x6867666564636261, 0x6a69, 0, 0, 0}
	want = append(want, seal.Of(want...))
	if got := slot.Put(slot.Slot{Node: 5, Name: "abcdefghij"}); !slices.Equal(got, want) {
		t.Errorf("Put: %x", got)
	}
	if got := slot.Put(slot.Slot{Node: 1, Name: strings.Repeat("\xff", 40)}); got[6] != math.MaxUint64 || got[2] != math.MaxUint64 || got[1] != 40 {
		t.Errorf("Put of the longest: %x", got)
	}
	if got := slot.Put(slot.Slot{Node: 1, Name: "a"}); got[2] != 97 {
		t.Errorf("the document's example: %x", got)
	}
	if got := slot.Put(slot.Slot{}); !slices.Equal(got, make([]uint64, 8)) {
		t.Errorf("Put of a free one: %x", got)
	}
}

func sealed(l ...uint64) []uint64 {
	l = append(slices.Clone(l), make([]uint64, 7-len(l))...)
	return append(l, seal.Of(l...))
}

func TestGet(t *testing.T) {
	if s, ok := slot.Get(make([]uint64, 8)...); !ok || s != (slot.Slot{}) {
		t.Errorf("a free one: %+v, %v", s, ok)
	}
	if s, ok := slot.Get(sealed(7, 2, 0x6261)...); !ok || s != (slot.Slot{Node: 7, Name: "ab"}) {
		t.Errorf("ab: %+v, %v", s, ok)
	}
	for i, l := range [][]uint64{
		sealed(), sealed(0, 1, 97), sealed(1), sealed(65, 1, 97), sealed(1<<32+1, 1, 97), sealed(math.MaxUint64, 1, 97), // nodes
		sealed(1, 41, 97), sealed(1, math.MaxUint64, 97), sealed(1, 1<<63, 97), // lengths
		sealed(1, 1, 0x6261), sealed(1, 1, 97, 1), sealed(1, 9, 0x6161616161616161, 0x6161), // bytes behind the name
		sealed(1, 2, 97), sealed(1, 1, 0x2f), sealed(1, 1, 0x2e), sealed(1, 2, 0x2e2e), sealed(1, 3, 0x612f61), // names that may not be
		make([]uint64, 7), make([]uint64, 9), nil, {0, 0, 0, 0, 0, 0, 0, 1}, {1, 1, 97, 0, 0, 0, 0, 0},
	} {
		if s, ok := slot.Get(l...); ok || s != (slot.Slot{}) {
			t.Errorf("words %d, %x: %+v, %v", i, l, s, ok)
		}
	}
	whole := slot.Put(slot.Slot{Node: 2, Name: "abcdefgh"})
	for i := range whole {
		other := slices.Clone(whole)
		other[i] ^= 1
		if _, ok := slot.Get(other...); ok {
			t.Errorf("with word %d changed", i)
		}
	}
}
