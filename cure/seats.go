package cure

import (
	"lintel/api"
	"lintel/slot"
)

// seats are the slots of all Dirs, by number and place; nothing is wrong with any of them.
type seats [api.MaxNodes + 1][]slot.Slot

// seat is where a slot stands.
type seat struct{ dir, place int }

func (w *work) seats() *seats {
	var s seats
	for n := range s {
		s[n] = w.Slots(n)
	}
	return &s
}

// of tells the slots that have a node, by Dir and place.
func (s *seats) of(n int) []seat {
	var l []seat
	for dir, slots := range s {
		for place, x := range slots {
			if x.Node == n {
				l = append(l, seat{dir, place})
			}
		}
	}
	return l
}

// reached tells which nodes are reached from Root or Lost.
func (s *seats) reached() (out [api.MaxNodes + 1]bool) {
	var from func(n int)
	from = func(n int) {
		if out[n] {
			return
		}
		out[n] = true
		for _, x := range s[n] {
			from(x.Node)
		}
	}
	from(api.Root)
	from(api.Lost)
	return out
}
