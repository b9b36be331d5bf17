package tree

import (
	"lintel/api"
	"lintel/path"
)

// walk goes one way, and counts the links that it follows on it.
type walk struct {
	t    *Tree
	hops int
}

// from goes parts from a directory on; where the last one is a Link it is followed if last says so.
func (w *walk) from(at int, parts []string, last bool) (int, api.Errno) {
	for i, p := range parts {
		if w.t.l[at].kind != api.Dir {
			return 0, api.ENOTDIR
		}
		if p == ".." {
			at = w.t.l[at].up
			continue
		}
		n := w.t.find(at, p)
		if n == 0 {
			return 0, api.ENOENT
		}
		if w.t.l[n].kind == api.Link && (last || i < len(parts)-1) {
			var err api.Errno
			if n, err = w.follow(at, n); err != api.OK {
				return 0, err
			}
		}
		at = n
	}
	return at, api.OK
}

// follow goes the way of a Link that stands in a directory.
func (w *walk) follow(dir, n int) (int, api.Errno) {
	w.hops++
	if w.hops > api.MaxHops {
		return 0, api.ELOOP
	}
	way := string(w.t.l[n].data)
	parts, err := path.Split(way)
	if err != api.OK {
		return 0, err
	}
	if way[0] == '/' {
		dir = api.Root
	}
	return w.from(dir, parts, true)
}

// way goes a whole way.
func (t *Tree) way(s string, last bool) (int, api.Errno) {
	parts, err := path.Split(s)
	if err != api.OK {
		return 0, err
	}
	w := walk{t: t}
	return w.from(api.Root, parts, last)
}

// dir goes the parts of a way that stand ahead of its last one: they lead to a directory.
func (t *Tree) dir(parts []string) (int, api.Errno) {
	w := walk{t: t}
	n, err := w.from(api.Root, parts, true)
	if err != api.OK {
		return 0, err
	}
	if t.l[n].kind != api.Dir {
		return 0, api.ENOTDIR
	}
	return n, api.OK
}

// last tells the directory of a way's last part, and that part.
func (t *Tree) last(s string) (dir int, name string, err api.Errno) {
	parts, name, err := path.Last(s)
	if err != api.OK {
		return 0, "", err
	}
	dir, err = t.dir(parts)
	return dir, name, err
}

// there tells the directory and the node of a way's last part, and that part.
func (t *Tree) there(s string) (dir, n int, name string, err api.Errno) {
	dir, name, err = t.last(s)
	if err != api.OK {
		return 0, 0, "", err
	}
	if n = t.find(dir, name); n == 0 {
		return 0, 0, "", api.ENOENT
	}
	return dir, n, name, api.OK
}

// room tells where a new name may be entered.
func (t *Tree) room(s string) (dir int, name string, err api.Errno) {
	dir, name, err = t.last(s)
	switch {
	case err != api.OK:
		return 0, "", err
	case t.find(dir, name) != 0:
		return 0, "", api.EEXIST
	case dir == api.Lost:
		return 0, "", api.EREAD
	}
	return dir, name, api.OK
}
