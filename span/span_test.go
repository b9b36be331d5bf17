package span_test

import (
	"math"
	"slices"
	"testing"

	"lintel/api"
	"lintel/pmem"
	"lintel/span"
)

func five(t *testing.T) *pmem.Mem {
	t.Helper()
	l := make([]uint64, 40)
	for i := range l {
		l[i] = uint64(100 + i)
	}
	m, err := pmem.From(l...)
	if err != api.OK {
		t.Fatal(err)
	}
	return m
}

func of(t *testing.T, m *pmem.Mem, from, n int) span.Span {
	t.Helper()
	s, err := span.Of(m, from, n)
	if err != api.OK || s.From != from || s.Len != n || s.Mem != m {
		t.Fatalf("Of(%d, %d): %v, %v", from, n, s, err)
	}
	return s
}

var odd = [][2]int{{-1, 1}, {0, 0}, {0, -1}, {5, 1}, {math.MaxInt, 1}, {1, math.MaxInt}, {math.MinInt, 1}, {math.MinInt, math.MinInt}, {math.MaxInt, math.MaxInt}, {2, math.MinInt}}

func TestOf(t *testing.T) {
	m := five(t)
	for _, c := range [][2]int{{0, 1}, {0, 5}, {4, 1}, {2, 3}} {
		of(t, m, c[0], c[1])
	}
	for _, c := range append([][2]int{{0, 6}, {4, 2}, {2, 4}}, odd...) {
		if s, err := span.Of(m, c[0], c[1]); err != api.EARG || s != (span.Span{}) {
			t.Errorf("Of(%d, %d): %v", c[0], c[1], err)
		}
	}
	if s, err := span.Of(nil, 0, 1); err != api.EARG || s != (span.Span{}) {
		t.Errorf("Of none: %v", err)
	}
}

func TestWordAndSet(t *testing.T) {
	m := five(t)
	s := of(t, m, 1, 2)
	for at, want := range map[int]api.Errno{0: api.OK, 15: api.OK, 16: api.EARG, -1: api.EARG, math.MaxInt: api.EARG, math.MinInt: api.EARG} {
		v, err := s.Word(at)
		if err != want || (err == api.OK && v != uint64(108+at)) || (err != api.OK && v != 0) {
			t.Errorf("Word(%d): %d, %v", at, v, err)
		}
		if err := s.Set(at, 7); err != want {
			t.Errorf("Set(%d): %v", at, err)
		}
		if at == 0 || at == 15 {
			if v, _ := m.Load(8 + at); v != 7 {
				t.Errorf("Set(%d) elsewhere", at)
			}
		}
	}
	m.Crash()
	if _, err := s.Word(16); err != api.EARG {
		t.Errorf("a word that is none, without power: %v", err)
	}
	if v, err := s.Word(0); err != api.EOFF || v != 0 || s.Set(0, 1) != api.EOFF {
		t.Errorf("without power: %v", err)
	}
}

func TestAll(t *testing.T) {
	s := of(t, five(t), 3, 2)
	s.Set(1, 7)
	l, err := s.All()
	if err != api.OK || len(l) != 16 || l[0] != 124 || l[1] != 7 || l[15] != 139 {
		t.Errorf("All: %d, %v", l, err)
	}
	s.Crash()
	if l, err := s.All(); err != api.EOFF || len(l) != 0 {
		t.Errorf("All without power: %d, %v", l, err)
	}
}

func TestPush(t *testing.T) {
	m := five(t)
	s := of(t, m, 1, 3)
	if err := s.Push(7, 1, 2, 3); err != api.OK {
		t.Fatal(err)
	}
	if a, b, c := m.Count(); a != 3 || b != 1 || c != 1 {
		t.Errorf("Push: %d, %d, %d", a, b, c)
	}
	if err := s.Push(22, 8, 9); err != api.OK {
		t.Errorf("Push up to its end: %v", err)
	}
	for at, l := range map[int][]uint64{0: nil, -1: {1, 2}, 23: {1, 2}, 24: {1}, math.MaxInt: {1, 2}, math.MinInt: {1}, 1: make([]uint64, 24)} {
		if err := s.Push(at, l...); err != api.EARG {
			t.Errorf("Push(%d) of %d: %v", at, len(l), err)
		}
	}
	m.Crash()
	if w := m.Words(); w[15] != 1 || w[16] != 2 || w[17] != 3 || w[30] != 8 || w[31] != 9 || w[14] != 114 || w[18] != 118 || w[32] != 132 {
		t.Errorf("Push: not sure: %d", w)
	}
	if s.Push(0, 1) != api.EOFF || s.Push(0) != api.EARG {
		t.Error("Push without power")
	}
}

func TestPushWhole(t *testing.T) {
	for _, c := range [][2]int{{0, 24}, {7, 2}, {15, 9}, {8, 8}, {7, 1}} {
		m := five(t)
		s := of(t, m, 1, 3)
		l := make([]uint64, c[1])
		if err := s.Push(c[0], l...); err != api.OK {
			t.Errorf("Push(%d) of %d: %v", c[0], c[1], err)
		}
		m.Crash()
		for at, v := range m.Words()[8:32] {
			if in := at >= c[0] && at < c[0]+c[1]; in != (v == 0) {
				t.Errorf("Push(%d) of %d: word %d is %d", c[0], c[1], at, v)
			}
		}
	}
}

func TestPushFalls(t *testing.T) {
	for calls, want := range map[int][2]uint64{1: {108, 109}, 2: {1, 109}, 3: {1, 2}, 4: {1, 2}, 5: {1, 2}} {
		m := five(t)
		s := of(t, m, 1, 1)
		m.Fuse(calls, 9)
		err := s.Push(0, 1, 2)
		if w := m.Words(); w[8] != want[0] || w[9] != want[1] || (err == api.EOFF) != (calls < 5) {
			t.Errorf("Push with a fuse of %d: %d, %v", calls, w[8:10], err)
		}
	}
}

func TestSub(t *testing.T) {
	m := five(t)
	s := of(t, m, 1, 3)
	x, err := s.Sub(1, 2)
	if err != api.OK || x != of(t, m, 2, 2) {
		t.Errorf("Sub(1, 2): %v, %v", x, err)
	}
	if x, err := s.Sub(0, 3); err != api.OK || x != s {
		t.Errorf("Sub(0, 3): %v, %v", x, err)
	}
	for _, c := range append([][2]int{{0, 4}, {1, 3}, {3, 1}}, odd...) {
		if x, err := s.Sub(c[0], c[1]); err != api.EARG || x != (span.Span{}) {
			t.Errorf("Sub(%d, %d): %v", c[0], c[1], err)
		}
	}
}

func TestWithoutMemory(t *testing.T) {
	for _, s := range []span.Span{{}, {From: 1, Len: 3}} {
		v, word := s.Word(0)
		l, all := s.All()
		x, sub := s.Sub(0, 1)
		for i, err := range []api.Errno{word, all, sub, s.Set(0, 1), s.Push(0, 1), s.Push(0)} {
			if err != api.EARG {
				t.Errorf("call %d of none: %v", i, err)
			}
		}
		if v != 0 || len(l) != 0 || x != (span.Span{}) {
			t.Error("something beside an error")
		}
	}
}

func TestPromoted(t *testing.T) {
	s := of(t, five(t), 2, 1)
	s.Set(0, 7)
	if s.Lines() != 5 || s.Words()[16] != 7 || s.Off() || s.Flush(2) != api.OK || s.Fence() != api.OK {
		t.Error("what the memory can, it can not")
	}
	if v, err := s.Load(16); v != 7 || err != api.OK || s.Store(0, 1) != api.OK {
		t.Error("Load, Store")
	}
	if !slices.Equal(s.Words(), s.Mem.Words()) {
		t.Error("Words")
	}
}
