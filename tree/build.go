package tree

import (
	"bytes"
	"slices"
	"strconv"
	"strings"

	"lintel/api"
	"lintel/path"
)

// Build makes one of its parts.
func Build(nodes int, l ...Part) (*Tree, api.Errno) {
	if nodes < api.Lost || nodes > api.MaxNodes {
		return nil, api.EARG
	}
	t := bare(nodes)
	for _, p := range l {
		if !t.take(p) {
			return nil, api.EARG
		}
	}
	if t.l[api.Root].kind != api.Dir || t.l[api.Lost].kind != api.Dir || !t.name() || !t.whole() {
		return nil, api.EARG
	}
	return t, api.OK
}

// take takes a part, if it may be one; its names are not looked up yet.
func (t *Tree) take(p Part) bool {
	if p.Node < api.Root || p.Node >= len(t.l) || t.l[p.Node].kind != api.Free || !sized(p) {
		return false
	}
	names := slices.Clone(p.Names)
	slices.SortFunc(names, func(a, b Name) int { return strings.Compare(a.Name, b.Name) })
	for i, x := range names {
		if !fits(p.Node, x) || i > 0 && x.Name == names[i-1].Name {
			return false
		}
	}
	e := &t.l[p.Node]
	e.kind, e.data, e.list = p.Type, bytes.Clone(p.Data), names
	return true
}

// sized tells whether a part has what its Type may have.
func sized(p Part) bool {
	switch p.Type {
	case api.File:
		return len(p.Names) == 0 && len(p.Data) <= api.MaxFile
	case api.Link:
		return len(p.Names) == 0 && len(p.Data) >= 1 && len(p.Data) <= api.MaxPath
	case api.Dir:
		return len(p.Data) == 0
	}
	return false
}

// fits tells whether a name may be one in a directory.
func fits(dir int, x Name) bool {
	switch dir {
	case api.Root:
		return path.Name(x.Name) && x.Name != lost
	case api.Lost:
		return x.Name == "#"+strconv.Itoa(x.Node)
	}
	return path.Name(x.Name)
}

// name looks all names up, and tells whether they are of nodes that may have one.
func (t *Tree) name() bool {
	for dir, e := range t.l {
		for _, x := range e.list {
			if x.Node <= api.Lost || x.Node >= len(t.l) || t.l[x.Node].kind == api.Free {
				return false
			}
			t.l[x.Node].names++
			t.l[x.Node].up = dir
		}
	}
	return true
}

// whole tells whether each node has as many names as it may have, and is reached.
func (t *Tree) whole() bool {
	for n := api.Lost + 1; n < len(t.l); n++ {
		e := t.l[n]
		switch e.kind {
		case api.File, api.Link:
			if e.names < 1 || e.names > api.MaxLinks {
				return false
			}
		case api.Dir:
			if e.names != 1 || !t.reached(n) {
				return false
			}
		}
	}
	return true
}

// reached tells whether the way up from a directory comes to Root: one that does not goes round.
func (t *Tree) reached(dir int) bool {
	for range t.l {
		if dir == api.Root {
			return true
		}
		dir = t.l[dir].up
	}
	return false
}
