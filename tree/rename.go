package tree

import (
	"lintel/api"
	"lintel/path"
)

func (t *Tree) rename(a, b string) Result {
	if _, _, err := path.Last(a); err != api.OK {
		return refuse(err)
	}
	parts, name, err := path.Last(b)
	if err != api.OK {
		return refuse(err)
	}
	from, n, old, err := t.there(a)
	if err != api.OK {
		return refuse(err)
	}
	if n == api.Lost {
		return refuse(api.EREAD)
	}
	to, err := t.dir(parts)
	if err != api.OK {
		return refuse(err)
	}
	if to == api.Lost {
		return refuse(api.EREAD)
	}
	if t.within(to, n) {
		return refuse(api.EARG)
	}
	other := t.find(to, name)
	if other == n {
		return Result{Node: n}
	}
	if err := t.yields(other, n); err != api.OK {
		return refuse(err)
	}
	t.leave(to, name)
	// Entered first: with none of its names left the node would be gone.
	t.enter(to, name, n)
	t.leave(from, old)
	return Result{Node: n}
}

// yields tells whether a node, if it is one, may lose its name to another.
func (t *Tree) yields(other, n int) api.Errno {
	if other == 0 {
		return api.OK
	}
	dir := t.l[n].kind == api.Dir
	switch {
	case other == api.Lost:
		return api.EREAD
	case t.l[other].kind == api.Dir && !dir:
		return api.EISDIR
	case t.l[other].kind != api.Dir && dir:
		return api.ENOTDIR
	case len(t.l[other].list) > 0:
		return api.ENOTEMPTY
	}
	return api.OK
}
