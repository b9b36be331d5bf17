package head_test

import (
	"math"
	"slices"
	"testing"

	"lintel/geom"
	"lintel/head"
	"lintel/seal"
)

func plain(blocks int, phase uint64) head.Head {
	return head.Head{Geom: geom.Plain(blocks), Phase: phase}
}

func TestPut(t *testing.T) {
	h := head.Head{Geom: geom.Geom{Blocks: 100, Nodes: 11, Clients: 2, Book: 17}, Phase: 77}
	want := []uint64{0x4c494e54454c0001, 100, 11, 2, 17, 0}
	want = append(want, 77, seal.Of(want...))
	if got := head.Put(h); !slices.Equal(got, want) {
		t.Errorf("Put: %x", got)
	}
	for _, bad := range []geom.Geom{{}, geom.Plain(63), geom.Plain(1025), {Blocks: 64, Nodes: 10, Clients: 9, Book: 20}} {
		if got := head.Put(head.Head{Geom: bad}); len(got) != 0 {
			t.Errorf("Put of %v: %x", bad, got)
		}
	}
}

func TestGet(t *testing.T) {
	for _, h := range []head.Head{plain(64, 0), plain(1024, math.MaxUint64), {Geom: geom.Geom{Blocks: 100, Nodes: 11, Clients: 2, Book: 17}, Phase: 5}} {
		l := head.Put(h)
		if got, ok := head.Get(l...); got != h || !ok {
			t.Errorf("Get of Put of %v: %v, %v", h, got, ok)
		}
		for i := range l {
			other := slices.Clone(l)
			other[i] ^= 1 << 40
			got, ok := head.Get(other...)
			if ok != (i == 6) || (!ok && got != (head.Head{})) {
				t.Errorf("word %d changed: %v, %v", i, got, ok)
			}
		}
		for _, n := range []int{0, 1, 7} {
			if got, ok := head.Get(l[:n]...); ok || got != (head.Head{}) {
				t.Errorf("Get of %d words: %v", n, got)
			}
		}
		if _, ok := head.Get(append(l, 0)...); ok {
			t.Error("Get of nine words")
		}
	}
}

// sealed writes any six words as Put would.
func sealed(l ...uint64) []uint64 { return append(slices.Clone(l), 0, seal.Of(l...)) }

func TestGetSealed(t *testing.T) {
	const magic = 0x4c494e54454c0001
	if _, ok := head.Get(sealed(magic, 64, 10, 1, 20, 0)...); !ok {
		t.Error("a head of six words is none")
	}
	for _, l := range [][]uint64{
		{magic + 1, 64, 10, 1, 20, 0}, {magic, 63, 10, 1, 20, 0}, {magic, 64, 3, 1, 20, 0}, {magic, 64, 10, 0, 20, 0}, {magic, 64, 10, 1, 15, 0},
		{magic, 64, 10, 1, 20, 1}, {magic, 1<<63 + 64, 10, 1, 20, 0}, {magic, math.MaxUint64, 10, 1, 20, 0}, {magic, 1<<32 + 64, 10, 1, 20, 0},
	} {
		if h, ok := head.Get(sealed(l...)...); ok || h != (head.Head{}) {
			t.Errorf("a head of %x: %v", l, h)
		}
	}
	if _, ok := head.Get(make([]uint64, 8)...); ok {
		t.Error("a head of noughts")
	}
}

// image has so many blocks, and these heads at its ends.
func image(blocks int, first, back []uint64) []uint64 {
	l := make([]uint64, 8*blocks)
	copy(l, first)
	copy(l[8*(blocks-1):], back)
	return l
}

func TestFind(t *testing.T) {
	a, b := plain(64, 5), head.Head{Geom: geom.Geom{Blocks: 64, Nodes: 9, Clients: 1, Book: 16}, Phase: 6}
	other := plain(65, 0)
	for i, c := range []struct {
		l           []uint64
		h           head.Head
		first, back bool
	}{
		{image(64, head.Put(a), head.Put(b)), a, true, true},
		{image(64, head.Put(a), nil), a, true, false},
		{image(64, nil, head.Put(b)), b, false, true},
		{image(64, nil, nil), head.Head{}, false, false},
		{image(64, head.Put(other), head.Put(b)), b, false, true},
		{image(64, head.Put(a), head.Put(other)), a, true, false},
		{image(65, head.Put(a), head.Put(a)), head.Head{}, false, false},
		{image(1024, nil, head.Put(plain(1024, 1))), plain(1024, 1), false, true},
		{image(1025, head.Put(a), head.Put(a)), head.Head{}, false, false},
		{image(63, head.Put(a), head.Put(a)), head.Head{}, false, false},
		{append(image(64, head.Put(a), head.Put(a)), 0), head.Head{}, false, false},
		{image(64, head.Put(a), head.Put(a))[:511], head.Head{}, false, false},
		{nil, head.Head{}, false, false},
		{head.Put(a), head.Head{}, false, false},
	} {
		h, first, back := head.Find(c.l)
		if h != c.h || first != c.first || back != c.back {
			t.Errorf("image %d: %v, %v, %v", i, h, first, back)
		}
	}
}
