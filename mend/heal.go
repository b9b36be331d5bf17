package mend

import (
	"slices"

	"lintel/api"
	"lintel/book"
	"lintel/check"
	"lintel/cure"
	"lintel/disk"
	"lintel/geom"
	"lintel/image"
	"lintel/pmem"
	"lintel/redo"
	"lintel/runs"
	"lintel/span"
)

const (
	headPhase = 1
	slotPhase = 4
	// The checker's findings of names that stand twice: its pass for slots, and their kind.
	slotPass   = 4
	doubleKind = 4
	// sumWord is the head's last word.
	sumWord = api.BlockWords - 1
)

// heal writes what cure plans, so that behind a fall at any moment cure plans what is left of it, and nothing else.
func heal(d *disk.Disk) api.Errno {
	words := d.Words()
	steps, err := cure.Plan(words)
	if err != api.OK {
		return err
	}
	var heads []redo.Write
	var rest []cure.Step
	for _, s := range steps {
		if s.Phase == headPhase {
			heads = append(heads, s.L...)
		} else {
			rest = append(rest, s)
		}
	}
	if err := putHeads(d.Mem, heads); err != api.OK {
		return err
	}
	return keepAll(d, ordered(words, rest))
}

// putHeads writes the heads. They are no book's to keep, so a first one that was none is written word by word,
// its sum ahead of all: with that no other geometry fits, and till the last word comes the back one counts.
func putHeads(m *pmem.Mem, l []redo.Write) api.Errno {
	sum := func(w redo.Write) bool { return w.At == sumWord }
	if i := slices.IndexFunc(l, sum); i > 0 {
		w := l[i]
		l = slices.Insert(slices.Delete(l, i, i+1), 0, w)
	}
	return write(m, l)
}

// write writes words, and makes them sure.
func write(m *pmem.Mem, l []redo.Write) api.Errno {
	if len(l) == 0 {
		return api.OK
	}
	var lines []int
	for _, w := range l {
		if err := m.Store(w.At, w.V); err != api.OK {
			return err
		}
		lines = append(lines, w.At/api.BlockWords)
	}
	slices.Sort(lines)
	if err := m.Flush(slices.Compact(lines)...); err != api.OK {
		return err
	}
	return m.Fence()
}

// ordered tells the steps so that each leaves the others as they are: a name that stands twice is
// freed ahead of the other slots, for with the slot ahead of it gone it would be well.
func ordered(words []uint64, steps []cure.Step) []cure.Step {
	var ahead, twice, slots, behind []cure.Step
	for _, s := range steps {
		if s.Phase < slotPhase {
			ahead = append(ahead, s)
			words = redo.Do(words, s.L...)
		}
	}
	names := doubles(words)
	for _, s := range steps {
		switch {
		case s.Phase == slotPhase && names[s.L[0].At/api.BlockWords] > 0:
			twice = append(twice, s)
		case s.Phase == slotPhase:
			slots = append(slots, s)
		case s.Phase > slotPhase:
			behind = append(behind, s)
		}
	}
	return slices.Concat(ahead, twice, slots, behind)
}

// doubles counts, by block, the slots whose names stand ahead of them in their directory.
func doubles(words []uint64) map[int]int {
	names := map[int]int{}
	x, err := image.Open(words)
	if err != api.OK {
		return names
	}
	for _, f := range check.Run(words) {
		if f.Pass == slotPass && f.Kind == doubleKind {
			v, _ := x.Node(f.At)
			block, _ := runs.At(v.Runs, f.More)
			names[block]++
		}
	}
	return names
}

// keepAll does steps, as many at once as the first book has room for, each lot wholly or not at all.
func keepAll(d *disk.Disk, steps []cure.Step) api.Errno {
	from, n := geom.Books(d.Geom, 0)
	s, err := span.Of(d.Mem, from, n)
	if err != api.OK {
		return err
	}
	b := book.New(s, 0)
	num := uint64(1)
	var lot []redo.Write
	for i, s := range steps {
		lot = append(lot, s.L...)
		if i+1 < len(steps) && len(lot)+len(steps[i+1].L) <= b.Room() {
			continue
		}
		if err := keep(b, redo.Rec{Num: num, L: lot}); err != api.OK {
			return err
		}
		num, lot = num+1, nil
	}
	return api.OK
}

// keep does a lot of writes by way of a book.
func keep(b book.Book, r redo.Rec) api.Errno {
	if err := b.Keep(r); err != api.OK {
		return err
	}
	if err := write(b.Mem, r.L); err != api.OK {
		return err
	}
	return b.Clear()
}
