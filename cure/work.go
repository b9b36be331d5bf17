package cure

import (
	"slices"
	"strconv"

	"lintel/api"
	"lintel/bits"
	"lintel/check"
	"lintel/geom"
	"lintel/head"
	"lintel/image"
	"lintel/node"
	"lintel/slot"
)

// slotPass is the checker's pass for slots.
const slotPass = 4

// work is an image that is made well, phase by phase.
type work struct{ image.Image }

func (w *work) put(block int, l []uint64) {
	copy(w.Words[block*api.BlockWords:(block+1)*api.BlockWords], l)
}

func (w *work) putNode(n int, v node.Node) { w.put(geom.Node(w.Geom, n), node.Put(v)) }

// putSlot writes a slot of a Dir.
func (w *work) putSlot(dir, place int, s slot.Slot) {
	v, _ := w.Node(dir)
	w.put(blocks(v)[place], slot.Put(s))
}

func (w *work) heads() {
	l := head.Put(head.Head{Geom: w.Geom})
	w.put(0, l)
	w.put(geom.Back(w.Geom), l)
	for client := range w.Clients {
		from, _ := geom.Books(w.Geom, client)
		w.Words[from*api.BlockWords] = 0
	}
}

func (w *work) nodes() {
	for _, f := range check.Run(w.Words) {
		if f.Pass != nodePass {
			continue
		}
		var v node.Node
		switch f.At {
		case api.Root:
			v = node.Node{Type: api.Dir, Links: 1}
		case api.Lost:
			from, n := geom.Lost(w.Geom)
			v = node.Node{Type: api.Dir, Links: 1, Size: n, Runs: []node.Run{{From: from, Len: n}}}
		}
		w.putNode(f.At, v)
	}
}

func (w *work) shares() {
	var taken [api.MaxBlocks]bool
	for n := 1; n <= w.Nodes; n++ {
		v, _ := w.Node(n)
		l := blocks(v)
		if slices.ContainsFunc(l, func(block int) bool { return taken[block] }) {
			w.putNode(n, node.Node{})
			continue
		}
		for _, block := range l {
			taken[block] = true
		}
	}
}

func (w *work) slots() {
	for _, f := range check.Run(w.Words) {
		if f.Pass == slotPass {
			w.putSlot(f.At, f.More, slot.Slot{})
		}
	}
}

// adopt gives nodes that are not reached a name in Lost.
func (w *work) adopt() {
	s := w.seats()
	for {
		n := w.orphan(s)
		if n == 0 {
			return
		}
		for _, x := range s.of(n) {
			w.free(s, x)
		}
		own := slot.Slot{Node: n, Name: "#" + strconv.Itoa(n)}
		w.putSlot(api.Lost, n-1, own)
		s[api.Lost][n-1] = own
	}
}

// free frees a slot.
func (w *work) free(s *seats, x seat) {
	w.putSlot(x.dir, x.place, slot.Slot{})
	s[x.dir][x.place] = slot.Slot{}
}

// orphan tells the next node that needs a name in Lost, 0 of none: the least one without any name, else the least Dir.
func (w *work) orphan(s *seats) int {
	reached := s.reached()
	dir := 0
	for n := 1; n <= w.Nodes; n++ {
		v, _ := w.Node(n)
		if v.Type == api.Free || reached[n] {
			continue
		}
		if len(s.of(n)) == 0 {
			return n
		}
		if dir == 0 && v.Type == api.Dir {
			dir = n
		}
	}
	return dir
}

func (w *work) links() {
	s := w.seats()
	for n := 1; n <= w.Nodes; n++ {
		v, _ := w.Node(n)
		if v.Type != api.File && v.Type != api.Link {
			continue
		}
		l := s.of(n)
		for _, x := range l[min(len(l), api.MaxLinks):] {
			w.free(s, x)
		}
		v.Links = min(len(l), api.MaxLinks)
		w.putNode(n, v)
	}
}

func (w *work) bits() {
	from, n := geom.Data(w.Geom)
	var taken []int
	for block := range w.Blocks {
		if block < from || block >= from+n {
			taken = append(taken, block)
		}
	}
	for n := 1; n <= w.Nodes; n++ {
		v, _ := w.Node(n)
		taken = append(taken, blocks(v)...)
	}
	row := w.Bits().L
	clear(row)
	from, _ = geom.Bits(w.Geom)
	copy(w.Words[from*api.BlockWords:], bits.Set(bits.Bits{L: row}, true, taken...).L)
}
