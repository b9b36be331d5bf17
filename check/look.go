package check

import (
	"lintel/api"
	"lintel/bits"
	"lintel/geom"
	"lintel/head"
	"lintel/image"
	"lintel/node"
)

// look is an image that is looked at, and what was found so far. Each pass leans on those ahead of it.
type look struct {
	image.Image
	sound [api.MaxNodes + 1]node.Node // by number; free: it is free, or not sound
	seats [api.MaxNodes + 1][]seat    // by number: the slots of a sound Dir
	found []Finding
}

func (k *look) tell(pass, kind, at, more int) {
	k.found = append(k.found, Finding{Pass: pass, Kind: kind, At: at, More: more})
}

// dir tells whether a node is a sound Dir.
func (k *look) dir(n int) bool { return k.sound[n].Type == api.Dir }

func (k *look) heads() {
	h, first, back := head.Find(k.Words)
	last := geom.Back(k.Geom)
	other, _ := head.Get(k.Block(last)...)
	if !first {
		k.tell(heads, 3, 0, 0)
	} else if h.Phase != 0 {
		k.tell(heads, 5, 0, 0)
	}
	if !back || other.Geom != k.Geom {
		k.tell(heads, 4, last, 0)
	} else if other.Phase != 0 {
		k.tell(heads, 5, last, 0)
	}
}

func (k *look) marks() {
	for client := range k.Clients {
		at, _ := geom.Books(k.Geom, client)
		if k.Block(at)[0] != 0 {
			k.tell(marks, 1, client, 0)
		}
	}
}

func (k *look) nodes() {
	for n := 1; n <= k.Nodes; n++ {
		v, ok := node.Get(k.Block(geom.Node(k.Geom, n))...)
		kind := 1
		if ok {
			kind = k.judge(n, v)
		}
		if kind == 0 {
			k.sound[n] = v
		} else {
			k.tell(nodes, kind, n, 0)
		}
	}
}

// judge tells the first thing that is wrong with a node that is one.
func (k *look) judge(n int, v node.Node) int {
	from, size := geom.Lost(k.Geom)
	lost := v.Type == api.Dir && len(v.Runs) == 1 && v.Runs[0] == node.Run{From: from, Len: size}
	switch {
	case !node.Good(k.Geom, v):
		return 2
	case n == api.Root && v.Type != api.Dir:
		return 3
	case n == api.Lost && !lost:
		return 4
	case n != api.Lost && lost:
		return 5
	case v.Type == api.Dir && v.Links != 1:
		return 6
	}
	return 0
}

// each calls for each block of a node.
func each(v node.Node, call func(block int)) {
	for _, r := range v.Runs {
		for i := range r.Len {
			call(r.From + i)
		}
	}
}

func (k *look) shares() {
	var owner [api.MaxBlocks]int // the least node that has it
	for n, v := range k.sound {
		least := n
		each(v, func(block int) {
			if owner[block] == 0 {
				owner[block] = n
			}
			least = min(least, owner[block])
		})
		if least != n {
			k.tell(shares, 1, n, least)
		}
	}
}

func (k *look) bits() {
	var taken [api.MaxBlocks]bool
	from, n := geom.Data(k.Geom)
	for block := range k.Blocks {
		taken[block] = block < from || block >= from+n
	}
	for _, v := range k.sound {
		each(v, func(block int) { taken[block] = true })
	}
	row := k.Bits()
	for block := range k.Blocks {
		if bits.Has(row, block) == taken[block] {
			continue
		}
		more := 0
		if taken[block] {
			more = 1
		}
		k.tell(rows, 1, block, more)
	}
	for block := k.Blocks; ; block++ {
		at, ok := bits.Next(row, true, block, len(row.L)*64)
		if !ok {
			return
		}
		k.tell(rows, 2, at, 0)
		block = at
	}
}
