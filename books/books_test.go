package books_test

import (
	"math"
	"slices"
	"testing"

	"lintel/api"
	"lintel/book"
	"lintel/books"
	"lintel/pmem"
	"lintel/redo"
	"lintel/span"
)

// list makes n books of three lines each.
func list(t *testing.T, n int) ([]book.Book, *pmem.Mem) {
	t.Helper()
	m, err := pmem.New(3*n + 1)
	if err != api.OK {
		t.Fatal(err)
	}
	var l []book.Book
	for i := range n {
		s, err := span.Of(m, 3*i, 3)
		if err != api.OK {
			t.Fatal(err)
		}
		l = append(l, book.New(s, i))
	}
	return l, m
}

func open(t *testing.T, l ...book.Book) *books.Books {
	t.Helper()
	x, err := books.Open(l...)
	if err != api.OK {
		t.Fatal(err)
	}
	return x
}

func rec(num uint64, at int) redo.Rec {
	return redo.Rec{Num: num, L: []redo.Write{{At: at, V: num}}}
}

func holds(t *testing.T, what string, x *books.Books, held []int, next uint64, all ...redo.Rec) {
	t.Helper()
	if !slices.Equal(x.Held(), held) || x.Next() != next {
		t.Errorf("%s: Held %d, Next %d", what, x.Held(), x.Next())
	}
	same := func(a, b redo.Rec) bool { return a.Num == b.Num && slices.Equal(a.L, b.L) }
	if !slices.EqualFunc(x.All(), all, same) {
		t.Errorf("%s: All tells %v, not %v", what, x.All(), all)
	}
}

func TestOpen(t *testing.T) {
	for n := range 11 {
		l, _ := list(t, n)
		x, err := books.Open(l...)
		if want := n >= 1 && n <= 8; (err == api.OK) != want || (x != nil) != want || (!want && err != api.EARG) {
			t.Errorf("Open of %d: %v", n, err)
		}
	}
	l, m := list(t, 2)
	if x, err := books.Open(l[0], book.New(span.Span{}, 1)); x != nil || err != api.EARG {
		t.Errorf("Open of one without memory: %v", err)
	}
	m.Crash()
	if x, err := books.Open(l...); x != nil || err != api.EOFF {
		t.Errorf("Open without power: %v", err)
	}
}

func TestOpenStands(t *testing.T) {
	l, _ := list(t, 4)
	l[0].Keep(rec(9, 1))
	l[1].Keep(rec(4, 2))
	l[3].Keep(rec(4, 3))
	x := open(t, l...)
	holds(t, "what stood", x, []int{0, 1, 3}, 10, rec(4, 2), rec(4, 3), rec(9, 1))
	l[1].Set(0, 5) // Read tells it no more
	holds(t, "one spoilt", x, []int{0, 3}, 10, rec(4, 3), rec(9, 1))
	if err := x.Done(0); err != api.OK {
		t.Error(err)
	}
	holds(t, "one done", x, []int{3}, 10, rec(4, 3))
}

func TestKeepAndDone(t *testing.T) {
	l, m := list(t, 3)
	x := open(t, l...)
	l[2] = book.Book{} // the list is not kept
	holds(t, "new", x, nil, 1)
	for i, client := range []int{1, 0} {
		if num, err := x.Keep(client, redo.Write{At: 7, V: 8}); num != uint64(i+1) || err != api.OK {
			t.Errorf("Keep(%d): %d, %v", client, num, err)
		}
	}
	one := []redo.Write{{At: 7, V: 8}}
	holds(t, "two kept", x, []int{0, 1}, 3, redo.Rec{Num: 1, L: one}, redo.Rec{Num: 2, L: one})
	if num, err := x.Keep(1); num != 0 || err != api.EBUSY {
		t.Errorf("Keep of a busy one: %d, %v", num, err)
	}
	if num, err := x.Keep(2, make([]redo.Write, 7)...); num != 0 || err != api.EARG {
		t.Errorf("Keep of too many: %d, %v", num, err)
	}
	holds(t, "refused", x, []int{0, 1}, 3, redo.Rec{Num: 1, L: one}, redo.Rec{Num: 2, L: one})
	for _, client := range []int{-1, 3, math.MaxInt, math.MinInt} {
		if num, err := x.Keep(client, one...); num != 0 || err != api.EARG || x.Done(client) != api.EARG {
			t.Errorf("client %d: %d, %v", client, num, err)
		}
	}
	if x.Done(0) != api.OK || x.Done(2) != api.OK {
		t.Error("Done")
	}
	holds(t, "one done", x, []int{1}, 3, redo.Rec{Num: 1, L: one})
	if num, err := x.Keep(2); num != 3 || err != api.OK {
		t.Errorf("Keep of none: %d, %v", num, err)
	}
	m.Crash()
	if num, err := x.Keep(0); num != 0 || err != api.EOFF || x.Done(0) != api.EOFF {
		t.Errorf("without power: %d, %v", num, err)
	}
	m.On()
	holds(t, "behind a fall", x, []int{1, 2}, 4, redo.Rec{Num: 1, L: one}, redo.Rec{Num: 3})
	if y := open(t, l[:2]...); y.Next() != 2 {
		t.Errorf("opened again: %d", y.Next())
	}
}

func TestLastNumber(t *testing.T) {
	l, _ := list(t, 2)
	l[0].Keep(rec(math.MaxUint64-1, 1))
	x := open(t, l...)
	holds(t, "the last but one", x, []int{0}, math.MaxUint64, rec(math.MaxUint64-1, 1))
	for range 2 {
		if num, err := x.Keep(1); num != math.MaxUint64 || err != api.OK || x.Done(1) != api.OK {
			t.Errorf("Keep at the last number: %d, %v", num, err)
		}
	}
	if x.Next() != math.MaxUint64 {
		t.Errorf("Next at the last number: %d", x.Next())
	}
}
