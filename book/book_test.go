package book_test

import (
	"math"
	"slices"
	"testing"

	"lintel/api"
	"lintel/book"
	"lintel/pmem"
	"lintel/redo"
	"lintel/span"
)

// open makes a book of n lines, behind one line that is another's.
func open(t *testing.T, n int) (book.Book, *pmem.Mem) {
	t.Helper()
	m, err := pmem.New(n + 2)
	if err != api.OK {
		t.Fatal(err)
	}
	s, err := span.Of(m, 1, n)
	if err != api.OK {
		t.Fatal(err)
	}
	return book.New(s, 3), m
}

func many(num uint64, n int) redo.Rec {
	r := redo.Rec{Num: num}
	for i := range n {
		r.L = append(r.L, redo.Write{At: i, V: num + uint64(i)})
	}
	return r
}

func same(a, b redo.Rec) bool { return a.Num == b.Num && slices.Equal(a.L, b.L) }

// reads: Read tells this record, or none (of number 0).
func reads(t *testing.T, what string, b book.Book, want redo.Rec) {
	t.Helper()
	r, ok, err := b.Read()
	if err != api.OK || ok != (want.Num != 0) || !same(r, want) {
		t.Errorf("%s: Read tells %v, %v, %v", what, r, ok, err)
	}
}

func TestKeep(t *testing.T) {
	b, m := open(t, 4)
	if b.Client != 3 || b.From != 1 || b.Len != 4 {
		t.Errorf("New: %v", b)
	}
	reads(t, "a new one", b, redo.Rec{})
	r := many(7, 2)
	if err := b.Keep(r); err != api.OK {
		t.Fatal(err)
	}
	reads(t, "kept", b, r)
	w := m.Words()
	if w[8] != 7 || !slices.Equal(w[16:23], redo.Put(r)) || !slices.Equal(w[:8], make([]uint64, 8)) {
		t.Errorf("the words: %d", w)
	}
	if err := b.Keep(many(8, 1)); err != api.EBUSY {
		t.Errorf("Keep of one more: %v", err)
	}
	reads(t, "kept still", b, r)
	m.Crash()
	m.On()
	reads(t, "behind a fall", b, r)
	if err := b.Clear(); err != api.OK {
		t.Fatal(err)
	}
	m.Crash()
	m.On()
	reads(t, "cleared", b, redo.Rec{})
	if err := b.Keep(many(9, 1)); err != api.OK {
		t.Error(err)
	}
	reads(t, "kept again", b, many(9, 1))
}

func TestKeepRefused(t *testing.T) {
	b, m := open(t, 4) // 24 words for the record: 10 writes
	for i, r := range []redo.Rec{{}, many(0, 1), many(1, 11), many(1, 401), {Num: 1, L: []redo.Write{{At: -1}}}, {Num: 1, L: []redo.Write{{At: 1<<20 + 1}}}} {
		if err := b.Keep(r); err != api.EARG {
			t.Errorf("record %d: %v", i, err)
		}
	}
	if !slices.Equal(m.Words(), make([]uint64, 48)) {
		t.Error("what was refused changed words")
	}
	if err := b.Keep(many(1, 10)); err != api.OK {
		t.Errorf("a record that just goes in: %v", err)
	}
	reads(t, "a record that just goes in", b, many(1, 10))
	if err := b.Keep(many(1, 11)); err != api.EARG {
		t.Errorf("too long for one that is busy: %v", err)
	}
}

func TestRoom(t *testing.T) {
	for lines, want := range map[int]int{1: 0, 2: 2, 3: 6, 16: 58, 20: 74, 101: 398, 102: 400, 110: 400} {
		b, _ := open(t, lines)
		if b.Room() != want {
			t.Errorf("Room of %d lines: %d", lines, b.Room())
		}
		if want == 0 {
			continue
		}
		if err := b.Keep(many(5, want+1)); err != api.EARG {
			t.Errorf("one more than Room of %d lines: %v", lines, err)
		}
		if err := b.Keep(many(5, want)); err != api.OK {
			t.Errorf("Room of %d lines: %v", lines, err)
		}
		reads(t, "as many as Room", b, many(5, want))
	}
	if one, _ := open(t, 1); one.Keep(many(1, 0)) != api.EARG {
		t.Error("a record in one line")
	}
	two, _ := open(t, 2)
	if err := two.Keep(many(1, 0)); err != api.OK {
		t.Errorf("a record of none: %v", err)
	}
	reads(t, "a record of none", two, many(1, 0))
}

func TestRead(t *testing.T) {
	for what, spoil := range map[string]func(b book.Book){
		"another mark":   func(b book.Book) { b.Set(0, 6) },
		"no mark":        func(b book.Book) { b.Set(0, 0) },
		"another word":   func(b book.Book) { b.Set(11, 999) },
		"another number": func(b book.Book) { b.Set(8, 6) },
		"too many":       func(b book.Book) { b.Set(9, math.MaxUint64) },
	} {
		b, _ := open(t, 3)
		b.Keep(many(5, 2))
		spoil(b)
		reads(t, what, b, redo.Rec{})
	}
	one, _ := open(t, 1)
	one.Set(0, 5)
	reads(t, "one line alone", one, redo.Rec{})
}

func TestOff(t *testing.T) {
	b, m := open(t, 3)
	b.Keep(many(5, 2))
	m.Crash()
	r, ok, err := b.Read()
	if err != api.EOFF || ok || !same(r, redo.Rec{}) {
		t.Errorf("Read: %v, %v, %v", r, ok, err)
	}
	if b.Keep(many(6, 1)) != api.EOFF || b.Clear() != api.EOFF || b.Keep(many(0, 1)) != api.EARG {
		t.Error("Keep, Clear without power")
	}
	none := book.New(span.Span{}, 0)
	_, _, err = none.Read()
	if err != api.EARG || none.Clear() != api.EARG || none.Keep(many(1, 1)) != api.EARG || none.Room() != 0 {
		t.Error("a book without memory")
	}
}

// falls does a thing with a fuse of 1, 2, .. calls, however much stays, and looks at each fallen book, till it goes through.
func falls(t *testing.T, what string, before, thing func(b book.Book) api.Errno, look func(b book.Book, r redo.Rec, ok bool)) {
	t.Helper()
	for kept := range 9 {
		for calls := 1; ; calls++ {
			b, m := open(t, 4)
			before(b)
			m.Fuse(calls, kept, kept, kept)
			err := thing(b)
			if err == api.OK {
				break
			}
			if err != api.EOFF || calls > 100 {
				t.Fatalf("%s: %v at call %d", what, err, calls)
			}
			m.On()
			r, ok, err := b.Read()
			if err != api.OK {
				t.Fatal(err)
			}
			look(b, r, ok)
		}
	}
}

func TestFallsOfKeep(t *testing.T) {
	r := many(5, 10)
	before := func(b book.Book) api.Errno {
		b.Keep(many(4, 10))
		return b.Clear()
	}
	falls(t, "Keep", before, func(b book.Book) api.Errno { return b.Keep(r) }, func(b book.Book, got redo.Rec, ok bool) {
		if ok && !same(got, r) {
			t.Errorf("Keep, fallen: %v", got)
		}
	})
}

func TestFallsOfClear(t *testing.T) {
	r := many(5, 10)
	falls(t, "Clear", func(b book.Book) api.Errno { return b.Keep(r) }, book.Book.Clear, func(b book.Book, got redo.Rec, ok bool) {
		if ok && !same(got, r) {
			t.Errorf("Clear, fallen: %v", got)
		}
	})
}

func TestPromoted(t *testing.T) {
	b, m := open(t, 2)
	if b.Set(1, 9) != api.OK || b.Flush(1) != api.OK || b.Fence() != api.OK || b.Lines() != 4 {
		t.Error("promoted calls")
	}
	if m.Crash(); m.Words()[9] != 9 {
		t.Error("promoted calls: not sure")
	}
}
