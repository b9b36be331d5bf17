package seal_test

import (
	"math"
	"slices"
	"testing"

	"lintel/seal"
)

const begin uint64 = 0x6c696e74656c2121

// turned is one step of the sum, spelt out.
func turned(sum, v uint64) uint64 { return (sum<<9 | sum>>55) ^ v }

func TestOf(t *testing.T) {
	for _, l := range [][]uint64{{}, {0}, {1}, {math.MaxUint64}, {1, 2, 3}, {3, 2, 1}, {1 << 63, 0, 0, 0, 5, 6, 7, 8, 9}} {
		want := begin
		for _, v := range l {
			want = turned(want, v)
		}
		was := slices.Clone(l)
		if got := seal.Of(l...); got != want {
			t.Errorf("Of(%x): %x, not %x", l, got, want)
		}
		if !slices.Equal(l, was) {
			t.Errorf("Of(%x) changed it", was)
		}
	}
	if seal.Of() != begin || seal.Of(0) != 0xd2dce8cad84242d8 || seal.Of(1) != 0xd2dce8cad84242d9 {
		t.Errorf("Of: %x, %x, %x", seal.Of(), seal.Of(0), seal.Of(1))
	}
}

func TestOn(t *testing.T) {
	if seal.On(7) != 7 || seal.On(1<<63, 1) != 1<<8^1 || seal.On(1, 0) != 1<<9 {
		t.Errorf("On: %x, %x, %x", seal.On(7), seal.On(1<<63, 1), seal.On(1, 0))
	}
	if seal.On(seal.Of(4, 5), 6, 7) != seal.Of(4, 5, 6, 7) {
		t.Error("On does not go on")
	}
}

func TestFits(t *testing.T) {
	for _, l := range [][]uint64{{}, {0}, {1, 2, 3, 4, 5, 6, 7}} {
		whole := append(slices.Clone(l), seal.Of(l...))
		if !seal.Fits(whole...) {
			t.Errorf("%x does not fit", whole)
		}
		for i := range whole {
			for bit := range 64 {
				other := slices.Clone(whole)
				other[i] ^= 1 << bit
				if seal.Fits(other...) {
					t.Errorf("%x fits", other)
				}
			}
		}
		if seal.Fits(append(whole, 0)...) {
			t.Errorf("%x fits with a nought behind", whole)
		}
	}
	if seal.Fits() || seal.Fits(0) {
		t.Error("none, or a nought, fits")
	}
}
