package pmem_test

import (
	"math"
	"slices"
	"testing"

	"lintel/api"
	"lintel/pmem"
)

func make3(t *testing.T) *pmem.Mem {
	t.Helper()
	m, err := pmem.New(3)
	if err != api.OK {
		t.Fatal(err)
	}
	return m
}

func row(n int) []uint64 {
	l := make([]uint64, n)
	for i := range l {
		l[i] = uint64(i + 1)
	}
	return l
}

func counts(t *testing.T, m *pmem.Mem, stores, flushes, fences int64) {
	t.Helper()
	if a, b, c := m.Count(); a != stores || b != flushes || c != fences {
		t.Errorf("Count: %d, %d, %d, not %d, %d, %d", a, b, c, stores, flushes, fences)
	}
}

func TestNew(t *testing.T) {
	for lines, want := range map[int]api.Errno{
		1: api.OK, 64: api.OK, api.MaxBlocks: api.OK, api.MaxBlocks + 1: api.EARG, 0: api.EARG, -1: api.EARG, math.MinInt: api.EARG, math.MaxInt: api.EARG,
	} {
		m, err := pmem.New(lines)
		if err != want || (m == nil) != (err != api.OK) {
			t.Errorf("New(%d): %v", lines, err)
		}
		if m != nil && (m.Lines() != lines || !slices.Equal(m.Words(), make([]uint64, 8*lines)) || m.Off()) {
			t.Errorf("New(%d): %d lines, %d words", lines, m.Lines(), len(m.Words()))
		}
	}
}

func TestFrom(t *testing.T) {
	for n, want := range map[int]api.Errno{
		0: api.EARG, 1: api.EARG, 7: api.EARG, 8: api.OK, 9: api.EARG, 16: api.OK, 8 * api.MaxBlocks: api.OK, 8*api.MaxBlocks + 1: api.EARG, 8*api.MaxBlocks + 8: api.EARG,
	} {
		m, err := pmem.From(row(n)...)
		if err != want || (m == nil) != (err != api.OK) {
			t.Errorf("From %d words: %v", n, err)
		}
		if m == nil {
			continue
		}
		if m.Crash(9, 9); !slices.Equal(m.Words(), row(n)) || m.Lines() != n/8 {
			t.Errorf("From %d words: they are not sure", n)
		}
	}
	l := row(8)
	m, _ := pmem.From(l...)
	l[0] = 99
	m.Words()[1] = 99
	if !slices.Equal(m.Words(), row(8)) {
		t.Error("words are shared")
	}
}

func TestStoreAndLoad(t *testing.T) {
	m := make3(t)
	for at, want := range map[int]api.Errno{0: api.OK, 23: api.OK, 24: api.EARG, -1: api.EARG, -8: api.EARG, math.MaxInt: api.EARG, math.MinInt: api.EARG} {
		if err := m.Store(at, 7); err != want {
			t.Errorf("Store(%d): %v", at, err)
		}
		v, err := m.Load(at)
		if err != want || (err == api.OK) != (v == 7) {
			t.Errorf("Load(%d): %d, %v", at, v, err)
		}
	}
	if w := m.Words(); len(w) != 24 || w[0] != 7 || w[23] != 7 || w[1] != 0 {
		t.Errorf("Words: %d", w)
	}
	counts(t, m, 2, 0, 0)
}

func TestSure(t *testing.T) {
	m := make3(t)
	m.Store(0, 1)
	m.Store(8, 2)
	m.Store(16, 3)
	if err := m.Flush(0, 2); err != api.OK {
		t.Error(err)
	}
	if err := m.Flush(1, 3); err != api.EARG {
		t.Errorf("a line that is none: %v", err)
	}
	if err := m.Flush(1, -1); err != api.EARG {
		t.Errorf("a line that is none: %v", err)
	}
	m.Flush()
	m.Fence()
	counts(t, m, 3, 2, 1)
	m.Crash()
	w := m.Words()
	if w[0] != 1 || w[8] != 0 || w[16] != 3 {
		t.Errorf("flushed lines alone are sure: %d", w)
	}
}

func TestCrash(t *testing.T) {
	m, _ := pmem.New(4)
	m.Store(0, 9) // sure, so its line does not count
	m.Flush(0)
	m.Fence()
	m.Store(8, 1)
	m.Store(9, 2)
	m.Store(16, 3)
	m.Store(24, 4)
	m.Store(25, 5)
	m.Crash(1, 0, 2, 7)
	if w := m.Words(); w[0] != 9 || w[8] != 1 || w[9] != 0 || w[16] != 0 || w[24] != 4 || w[25] != 5 {
		t.Errorf("Crash(1, 0, 2): %d", w)
	}
	m.On()
	m.Store(8, 6)
	m.Store(16, 7)
	m.Crash(1)
	if w := m.Words(); w[8] != 6 || w[16] != 0 {
		t.Errorf("Crash of fewer numbers than lines: %d", w)
	}
}

func TestOff(t *testing.T) {
	m := make3(t)
	m.Store(0, 1)
	m.Crash(1)
	m.Crash(0)
	if !m.Off() {
		t.Error("power behind a Crash")
	}
	_, load := m.Load(0)
	_, bad := m.Load(-1)
	for i, err := range []api.Errno{load, bad, m.Store(0, 2), m.Store(-1, 2), m.Flush(0), m.Flush(), m.Flush(9), m.Fence()} {
		if err != api.EOFF {
			t.Errorf("call %d without power: %v", i, err)
		}
	}
	if v, err := m.Load(0); v != 0 || err != api.EOFF {
		t.Error("a word beside an error")
	}
	if m.Words()[0] != 1 || m.Lines() != 3 {
		t.Error("words without power")
	}
	counts(t, m, 1, 0, 0)
	m.On()
	m.On()
	if v, err := m.Load(0); m.Off() || v != 1 || err != api.OK {
		t.Error("On")
	}
}

// steps does one call of each kind, over and over, till one is refused, and tells how many were done.
func steps(m *pmem.Mem) int {
	for n := 0; n < 100; n++ {
		var err api.Errno
		switch n % 3 {
		case 0:
			err = m.Store(0, uint64(n+1))
		case 1:
			err = m.Flush(0)
		case 2:
			err = m.Fence()
		}
		if err == api.EOFF {
			return n
		}
	}
	return 100
}

func TestFuse(t *testing.T) {
	for calls := 1; calls < 8; calls++ {
		m := make3(t)
		m.Fuse(calls)
		m.Store(-1, 1) // what could not be done does not count, nor does a Load
		m.Flush(9)
		m.Load(0)
		if got := steps(m); got != calls-1 || !m.Off() {
			t.Errorf("Fuse(%d): %d done", calls, got)
		}
		a, b, c := m.Count()
		if int(a+b+c) != calls-1 {
			t.Errorf("Fuse(%d): Count tells %d, %d, %d", calls, a, b, c)
		}
		m.On()
		if steps(m) != 100 {
			t.Errorf("Fuse(%d) stays behind its fall", calls)
		}
	}
}

func TestFuseNone(t *testing.T) {
	for _, calls := range []int{0, -1, math.MinInt} {
		m := make3(t)
		m.Fuse(2)
		m.Fuse(calls)
		if steps(m) != 100 {
			t.Errorf("Fuse(%d) lets the power go", calls)
		}
	}
	m := make3(t)
	m.Fuse(2)
	m.Fuse(5)
	if steps(m) != 4 {
		t.Error("a new fuse is not in place of the old")
	}
	m.On()
	m.Fuse(3)
	m.Crash()
	m.Fuse(2)
	m.On()
	if steps(m) != 100 {
		t.Error("a fuse stays behind a Crash, or was set without power")
	}
}

func TestFuseKeeps(t *testing.T) {
	m := make3(t)
	keep := []int{1, 0, 2}
	m.Fuse(5, keep...)
	keep[0] = 0
	m.Store(0, 1)
	m.Store(1, 2)
	m.Store(8, 3)
	m.Store(16, 4)
	if err := m.Store(16, 5); err != api.EOFF {
		t.Fatal(err)
	}
	if w := m.Words(); w[0] != 1 || w[1] != 0 || w[8] != 0 || w[16] != 4 {
		t.Errorf("the fall of a fuse: %d", w)
	}
}
