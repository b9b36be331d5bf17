package deed

import (
	"bytes"
	"slices"

	"lintel/api"
	"lintel/edit"
	"lintel/node"
	"lintel/pool"
	"lintel/slot"
	"lintel/tree"
)

// parts are a tree's, by number; Type Free: there is none.
type parts [api.MaxNodes + 1]tree.Part

func partsOf(t *tree.Tree) *parts {
	var l parts
	for _, p := range t.Parts() {
		l[p.Node] = p
	}
	return &l
}

// change makes of an image with one tree the same image with another one.
type change struct {
	*edit.Edit
	client   int
	was, now *parts
}

func newChange(e *edit.Edit, client int, was, now *tree.Tree) change {
	return change{Edit: e, client: client, was: partsOf(was), now: partsOf(now)}
}

// do makes the change. What is taken comes ahead of what is given back, so that no block that still counts is written over.
func (c change) do() api.Errno {
	for _, step := range []func(n int) api.Errno{c.begin, c.fill, c.names, c.links, c.end} {
		for n := range c.now {
			if err := step(n); err != api.OK {
				return err
			}
		}
	}
	return api.OK
}

// begin makes a new node: one without bytes, so a Link is a File till it has its way.
func (c change) begin(n int) api.Errno {
	typ := c.now[n].Type
	if typ == api.Free || c.was[n].Type != api.Free {
		return api.OK
	}
	if typ == api.Link {
		typ = api.File
	}
	return c.SetNode(n, node.Node{Type: typ, Links: 1})
}

// fill writes the bytes of a node, if they are others.
func (c change) fill(n int) api.Errno {
	p := c.now[n]
	if !bytes.Equal(p.Data, c.was[n].Data) && p.Type != api.Free {
		if err := c.Fill(c.client, n, p.Data); err != api.OK {
			return err
		}
	}
	v, _ := c.Node(n)
	if v.Type == p.Type || p.Type != api.Link {
		return api.OK
	}
	v.Type = api.Link
	return c.SetNode(n, v)
}

// names writes the slots of a Dir, if its names are others.
func (c change) names(n int) api.Errno {
	p := c.now[n]
	if p.Type != api.Dir || slices.Equal(p.Names, c.was[n].Names) {
		return api.OK
	}
	want := seated(c.Slots(n), p.Names)
	// Slots are added only where none is left free: whatever stood in the new ones is written over below.
	if err := c.grow(n, len(want)); err != api.OK {
		return err
	}
	for place, s := range c.Slots(n) {
		if s == want[place] {
			continue
		}
		if err := c.SetSlot(n, place, want[place]); err != api.OK {
			return err
		}
	}
	return api.OK
}

// seated tells slots that hold just these names: each stays where it stands, a new one takes the first free place.
func seated(l []slot.Slot, names []tree.Name) []slot.Slot {
	left := map[string]int{} // the nodes of the names that have no place yet
	for _, x := range names {
		left[x.Name] = x.Node
	}
	for place, s := range l {
		if n := left[s.Name]; n != 0 {
			l[place].Node = n
			delete(left, s.Name)
		} else {
			l[place] = slot.Slot{}
		}
	}
	for _, x := range names {
		if left[x.Name] == 0 {
			continue
		}
		s := slot.Slot{Node: x.Node, Name: x.Name}
		if place := slices.Index(l, slot.Slot{}); place >= 0 {
			l[place] = s
		} else {
			l = append(l, s)
		}
	}
	return l
}

// grow gives a Dir as many slots: more behind those it has, or, where its runs would be too many, all anew.
func (c change) grow(dir, slots int) api.Errno {
	if slots == len(c.Slots(dir)) {
		return api.OK
	}
	if err := c.Grow(c.client, dir, slots); err != api.ENOSPC {
		return err
	}
	return c.move(dir, slots)
}

// move gives a Dir other blocks, for so many slots; what stands in them is no slot of its yet.
func (c change) move(dir, slots int) api.Errno {
	p, err := pool.New(c.Geom, c.Bits())
	if err != api.OK {
		return err
	}
	l, err := p.Take(c.client, slots, api.MaxRuns)
	if err != api.OK {
		return err
	}
	v, _ := c.Node(dir)
	v.Runs, v.Size = l, slots
	return c.SetNode(dir, v)
}

// links writes how many names a File or Link has.
func (c change) links(n int) api.Errno {
	v, _ := c.Node(n)
	if c.now[n].Type != api.File && c.now[n].Type != api.Link {
		return api.OK
	}
	count := 0
	for _, p := range c.now {
		for _, x := range p.Names {
			if x.Node == n {
				count++
			}
		}
	}
	if count == v.Links {
		return api.OK
	}
	v.Links = count
	return c.SetNode(n, v)
}

// end frees a node that is gone.
func (c change) end(n int) api.Errno {
	if c.was[n].Type == api.Free || c.now[n].Type != api.Free {
		return api.OK
	}
	return c.Clear(n)
}
