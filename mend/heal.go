package mend

import (
	"slices"

	"lintel/api"
	"lintel/book"
	"lintel/check"
	"lintel/cure"
	"lintel/deed"
	"lintel/disk"
	"lintel/geom"
	"lintel/image"
	"lintel/redo"
	"lintel/runs"
	"lintel/span"
)

const (
	headPhase = 1
	slotPhase = 4
	// The checker's findings of names that stand twice: its pass for slots, and their kind.
	slotPass   = 4
	doubleKind = 4
	// sumWord is the head's last word.
	sumWord = api.BlockWords - 1
	// client is whose book is used.
	client = 0
)

// heal writes what cure plans, so that behind a fall at any moment cure plans what is left of it, and nothing else.
func heal(d *disk.Disk) api.Errno {
	words := d.Words()
	steps, err := cure.Plan(words)
	if err != api.OK {
		return err
	}
	var heads []redo.Write
	var rest []cure.Step
	for _, s := range steps {
		if s.Phase == headPhase {
			heads = append(heads, s.L...)
		} else {
			rest = append(rest, s)
		}
	}
	if err := putHeads(d, heads); err != api.OK {
		return err
	}
	return keepAll(d, ordered(words, rest))
}

// putHeads writes the heads word by word: they are no book's to keep. Of a first one that was none the sum
// comes ahead of all: with that no other geometry fits, and till the last word comes the back one counts.
func putHeads(d *disk.Disk, l []redo.Write) api.Errno {
	sum := func(w redo.Write) bool { return w.At == sumWord }
	if i := slices.IndexFunc(l, sum); i > 0 {
		w := l[i]
		l = slices.Insert(slices.Delete(l, i, i+1), 0, w)
	}
	whole, err := span.Of(d.Mem, 0, d.Lines())
	if err != api.OK {
		return err
	}
	for _, w := range l {
		if err := whole.Push(w.At, w.V); err != api.OK {
			return err
		}
	}
	return api.OK
}

// ordered tells the steps so that each leaves the others as they are: a name that stands twice is
// freed ahead of the other slots, for with the slot ahead of it gone it would be well.
func ordered(words []uint64, steps []cure.Step) []cure.Step {
	var ahead, twice, slots, behind []cure.Step
	for _, s := range steps {
		if s.Phase < slotPhase {
			ahead = append(ahead, s)
			words = redo.Do(words, s.L...)
		}
	}
	names := doubles(words)
	for _, s := range steps {
		switch {
		case s.Phase == slotPhase && names[s.L[0].At/api.BlockWords] > 0:
			twice = append(twice, s)
		case s.Phase == slotPhase:
			slots = append(slots, s)
		case s.Phase > slotPhase:
			behind = append(behind, s)
		}
	}
	return slices.Concat(ahead, twice, slots, behind)
}

// doubles counts, by block, the slots whose names stand ahead of them in their directory.
func doubles(words []uint64) map[int]int {
	names := map[int]int{}
	x, err := image.Open(words)
	if err != api.OK {
		return names
	}
	for _, f := range check.Run(words) {
		if f.Pass == slotPass && f.Kind == doubleKind {
			v, _ := x.Node(f.At)
			block, _ := runs.At(v.Runs, f.More)
			names[block]++
		}
	}
	return names
}

// keepAll does steps, as many at once as a book has room for, each lot wholly or not at all.
func keepAll(d *disk.Disk, steps []cure.Step) api.Errno {
	from, n := geom.Books(d.Geom, client)
	s, err := span.Of(d.Mem, from, n)
	if err != api.OK {
		return err
	}
	room := book.New(s, client).Room()
	var lot []redo.Write
	for i, s := range steps {
		lot = append(lot, s.L...)
		if i+1 < len(steps) && len(lot)+len(steps[i+1].L) <= room {
			continue
		}
		if err := keep(d, deed.Plan{Done: lot}); err != api.OK {
			return err
		}
		lot = nil
	}
	return api.OK
}

// keep does a lot of writes by way of the book.
func keep(d *disk.Disk, p deed.Plan) api.Errno {
	if err := d.Keep(client, p); err != api.OK {
		return err
	}
	return d.Done(client, p)
}
