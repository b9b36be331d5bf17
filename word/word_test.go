package word_test

import (
	"bytes"
	"math"
	"slices"
	"testing"

	"lintel/word"
)

func some(n int) []byte {
	b := make([]byte, n)
	for i := range b {
		b[i] = byte(i + 1)
	}
	return b
}

func TestGet(t *testing.T) {
	b := some(17)
	for at, want := range map[int]uint64{
		0: 0x0807060504030201, 1: 0x100f0e0d0c0b0a09, 2: 0, 3: 0, -1: 0,
		math.MaxInt: 0, math.MinInt: 0, 1 << 61: 0, 1 << 60: 0,
	} {
		if got := word.Get(b, at); got != want {
			t.Errorf("Get(%d): %x, not %x", at, got, want)
		}
	}
	if word.Get(nil, 0) != 0 || word.Get(some(7), 0) != 0 || word.Get(some(8), 0) == 0 {
		t.Error("Get at the edge of what there is")
	}
}

func TestPut(t *testing.T) {
	b := append(make([]byte, 0, 40), some(17)...)
	for at, want := range map[int]bool{0: true, 1: true, 2: false, -1: false, math.MaxInt: false, math.MinInt: false, 1 << 61: false} {
		out, ok := word.Put(b, at, 0xf1e2d3c4b5a69788)
		wanted := some(17)
		if want {
			copy(wanted[8*at:], []byte{0x88, 0x97, 0xa6, 0xb5, 0xc4, 0xd3, 0xe2, 0xf1})
		}
		if ok != want || !bytes.Equal(out, wanted) {
			t.Errorf("Put(%d): %v, %v", at, out, ok)
		}
		if !bytes.Equal(b, some(17)) {
			t.Fatalf("Put(%d) changed what it was given", at)
		}
		out[0], out[16] = 99, 99
		if !bytes.Equal(b, some(17)) {
			t.Fatalf("Put(%d) shares what it was given", at)
		}
	}
	if out, ok := word.Put(nil, 0, 1); len(out) != 0 || ok {
		t.Error("Put of none")
	}
}

func TestBytesAndWords(t *testing.T) {
	l := []uint64{1, 0x8877665544332211, math.MaxUint64}
	want := []byte{1, 0, 0, 0, 0, 0, 0, 0, 0x11, 0x22, 0x33, 0x44, 0x55, 0x66, 0x77, 0x88, 255, 255, 255, 255, 255, 255, 255, 255}
	if got := word.Bytes(l...); !bytes.Equal(got, want) {
		t.Errorf("Bytes: %v", got)
	}
	for extra := range 8 {
		if got := word.Words(append(slices.Clone(want), some(extra)...)); !slices.Equal(got, l) {
			t.Errorf("Words with %d bytes behind: %x", extra, got)
		}
	}
	if len(word.Bytes()) != 0 || len(word.Words(nil)) != 0 || len(word.Words(some(7))) != 0 {
		t.Error("of none: something")
	}
}

func TestField(t *testing.T) {
	const v = 0xfedcba9876543210
	for _, c := range []struct {
		from, n int
		want    uint64
	}{
		{4, 8, 0x21}, {0, 64, v}, {0, 1, 0}, {4, 1, 1}, {63, 1, 1}, {60, 4, 15}, {32, 32, 0xfedcba98}, {0, 63, v &^ (1 << 63)},
		{0, 0, 0}, {0, 65, 0}, {1, 64, 0}, {60, 5, 0}, {63, 2, 0}, {64, 1, 0}, {64, 0, 0}, {-1, 1, 0}, {4, -1, 0},
		{math.MaxInt, 1, 0}, {math.MinInt, 1, 0}, {4, math.MaxInt, 0}, {4, math.MinInt, 0}, {math.MinInt, math.MaxInt, 0},
	} {
		if got := word.Field(v, c.from, c.n); got != c.want {
			t.Errorf("Field(%d, %d): %x, not %x", c.from, c.n, got, c.want)
		}
	}
	if word.Field(0xabcd, 4, 8) != 188 {
		t.Error("the document's example")
	}
}

func TestWith(t *testing.T) {
	const v = 0xfedcba9876543210
	for _, c := range []struct {
		from, n int
		x, want uint64
	}{
		{4, 8, 0xff7, 0xfedcba9876543f70}, {0, 64, 5, 5}, {63, 1, 2, v &^ (1 << 63)}, {60, 4, 0, 0x0edcba9876543210}, {0, 4, 1, v + 1},
		{0, 0, 1, v}, {0, 65, 1, v}, {1, 64, 1, v}, {64, 1, 1, v}, {-1, 1, 1, v}, {4, -1, 1, v}, {math.MaxInt, 1, 1, v}, {math.MinInt, 5, 1, v}, {4, math.MaxInt, 1, v},
	} {
		if got := word.With(v, c.from, c.n, c.x); got != c.want {
			t.Errorf("With(%d, %d, %x): %x, not %x", c.from, c.n, c.x, got, c.want)
		}
	}
}

func TestTurn(t *testing.T) {
	const v = 0x8000000000000005
	for n, want := range map[int]uint64{
		0: v, 1: 0xb, 4: 0x58, 63: 0xc000000000000002, 64: v, 65: 0xb, 128: v, -1: 0xc000000000000002, -63: 0xb, -64: v, -65: 0xc000000000000002,
		math.MinInt: v, math.MaxInt: 0xc000000000000002,
	} {
		if got := word.Turn(v, n); got != want {
			t.Errorf("Turn(%d): %x, not %x", n, got, want)
		}
	}
}
