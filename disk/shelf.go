package disk

import (
	"cmp"
	"slices"

	"lintel/api"
	"lintel/book"
	"lintel/geom"
	"lintel/pmem"
	"lintel/redo"
	"lintel/span"
)

// shelf has the books of a memory, as they stand when it is mounted.
type shelf struct {
	m     *pmem.Mem
	g     geom.Geom
	books []book.Book
}

func open(m *pmem.Mem, g geom.Geom) (shelf, api.Errno) {
	s := shelf{m: m, g: g}
	for client := range g.Clients {
		from, n := geom.Books(g, client)
		part, err := span.Of(m, from, n)
		if err != api.OK {
			return shelf{}, err
		}
		s.books = append(s.books, book.New(part, client))
	}
	return s, api.OK
}

// settle does what stands in the books, and clears them.
func (s shelf) settle() api.Errno {
	left, err := s.standing()
	if err != api.OK {
		return err
	}
	for _, x := range left {
		if err := write(s.m, s.allowed(x.rec.L)); err != api.OK {
			return err
		}
	}
	// In the same order: whatever is left behind a fall are the last records, and those done once more change nothing.
	for _, x := range left {
		if err := x.book.Clear(); err != api.OK {
			return err
		}
	}
	return s.wipe()
}

// stood is a book with a record in it.
type stood struct {
	book book.Book
	rec  redo.Rec
}

// standing tells the books that have a record, by its number.
func (s shelf) standing() ([]stood, api.Errno) {
	var l []stood
	for _, b := range s.books {
		r, ok, err := b.Read()
		if err != api.OK {
			return nil, err
		}
		if ok {
			l = append(l, stood{b, r})
		}
	}
	slices.SortStableFunc(l, func(a, b stood) int { return cmp.Compare(a.rec.Num, b.rec.Num) })
	return l, api.OK
}

// wipe clears the marks that stand without a record.
func (s shelf) wipe() api.Errno {
	for _, b := range s.books {
		v, err := b.Word(0)
		if err != api.OK {
			return err
		}
		if v == 0 {
			continue
		}
		if err := b.Clear(); err != api.OK {
			return err
		}
	}
	return api.OK
}

// allowed tells the writes that go neither to a head nor to a book nor past the last word.
func (s shelf) allowed(l []redo.Write) []redo.Write {
	bits, _ := geom.Bits(s.g) // the first block behind the books
	var out []redo.Write
	for _, w := range l {
		if block := w.At / api.BlockWords; block >= bits && block < geom.Back(s.g) {
			out = append(out, w)
		}
	}
	return out
}

// write writes words, and makes them sure; all of them, or, where one is no word of the memory, none.
func write(m *pmem.Mem, l []redo.Write) api.Errno {
	if len(l) == 0 {
		return api.OK
	}
	var lines []int
	for _, w := range l {
		if w.At < 0 || w.At/api.BlockWords >= m.Lines() {
			return api.EARG
		}
		lines = append(lines, w.At/api.BlockWords)
	}
	for _, w := range l {
		if err := m.Store(w.At, w.V); err != api.OK {
			return err
		}
	}
	slices.Sort(lines)
	if err := m.Flush(slices.Compact(lines)...); err != api.OK {
		return err
	}
	return m.Fence()
}
