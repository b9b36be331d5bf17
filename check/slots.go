package check

import (
	"strconv"

	"lintel/api"
	"lintel/slot"
)

const lost = "lost+found"

// seat is a slot, and the first thing that is wrong with it.
type seat struct {
	slot.Slot
	kind int
}

// well tells whether a seat holds a name that nothing is wrong with.
func (s seat) well() bool { return s.kind == 0 && s.Node != 0 }

func (k *look) slots() {
	for dir := range k.sound {
		if k.dir(dir) {
			k.seats[dir] = k.seat(dir)
		}
	}
	k.doubles()
	for dir, l := range k.seats {
		for place, s := range l {
			if s.kind != 0 {
				k.tell(slots, s.kind, dir, place)
			}
		}
	}
}

// seat tells a Dir's slots, and what is wrong with each by itself and by those ahead of it in this Dir.
func (k *look) seat(dir int) []seat {
	var l []seat
	names := map[string]int{} // in how many slots so far
	each(k.sound[dir], func(block int) {
		s, ok := slot.Get(k.Block(block)...)
		if !ok {
			l = append(l, seat{kind: 1})
			return
		}
		kind := 0
		if s.Node != 0 {
			kind = k.wrong(dir, len(l), s, names[s.Name] > 0)
			names[s.Name]++
		}
		l = append(l, seat{Slot: s, kind: kind})
	})
	return l
}

// wrong tells the first thing that is wrong with a slot that is not free; ahead: its name stands ahead of it.
func (k *look) wrong(dir, place int, s slot.Slot, ahead bool) int {
	switch {
	case k.sound[s.Node].Type == api.Free:
		return 2
	case s.Node == api.Root || s.Node == api.Lost:
		return 3
	case ahead || dir == api.Root && s.Name == lost:
		return 4
	case dir == api.Lost && (s.Node != place+1 || s.Name != "#"+strconv.Itoa(s.Node)):
		return 5
	}
	return 0
}

// doubles finds the slots of Dirs that have one already.
func (k *look) doubles() {
	var has [api.MaxNodes + 1]bool
	for _, l := range k.seats {
		for place, s := range l {
			if !s.well() || !k.dir(s.Node) {
				continue
			}
			if has[s.Node] {
				l[place].kind = 6
			}
			has[s.Node] = true
		}
	}
}

func (k *look) reach() {
	var reached [api.MaxNodes + 1]bool
	var from func(n int)
	from = func(n int) {
		if reached[n] || k.sound[n].Type == api.Free {
			return
		}
		reached[n] = true
		for _, s := range k.seats[n] {
			if s.well() {
				from(s.Node)
			}
		}
	}
	from(api.Root)
	from(api.Lost)
	for n, v := range k.sound {
		if v.Type != api.Free && !reached[n] {
			k.tell(reach, 1, n, 0)
		}
	}
}

func (k *look) links() {
	var count [api.MaxNodes + 1]int
	for _, l := range k.seats {
		for _, s := range l {
			if s.well() {
				count[s.Node]++
			}
		}
	}
	for n, v := range k.sound {
		if (v.Type == api.File || v.Type == api.Link) && count[n] != v.Links {
			k.tell(links, 1, n, count[n])
		}
	}
}
