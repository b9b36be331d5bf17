package tree

import (
	"bytes"
	"slices"

	"lintel/api"
)

// The kinds of things to do.
const (
	mkdir = iota + 1
	create
	link
	unlink
	rmdir
	rename
	symlink
	readlink
	read
	write
	trunc
	stat
	list
)

// Reads tells whether a kind changes nothing.
func Reads(kind int) bool {
	return kind == readlink || kind == read || kind == stat || kind == list
}

// Do does a thing.
func (t *Tree) Do(o Op) Result {
	switch o.Kind {
	case mkdir:
		return t.make(o.A, api.Dir, nil)
	case create:
		return t.make(o.A, api.File, nil)
	case link:
		return t.link(o.A, o.B)
	case unlink:
		return t.unlink(o.A)
	case rmdir:
		return t.rmdir(o.A)
	case rename:
		return t.rename(o.A, o.B)
	case symlink:
		return t.symlink(o.A, o.Data)
	case readlink:
		return t.readlink(o.A)
	case read:
		return t.read(o.A, o.At, o.N)
	case write:
		return t.write(o.A, o.At, o.Data)
	case trunc:
		return t.trunc(o.A, o.N)
	case stat:
		return t.stat(o.A)
	case list:
		return t.names(o.A)
	}
	return refuse(api.EARG)
}

// refuse tells an error, and nothing else.
func refuse(err api.Errno) Result { return Result{Err: err} }

func (t *Tree) make(way string, kind int, data []byte) Result {
	dir, name, err := t.room(way)
	if err != api.OK {
		return refuse(err)
	}
	n := t.spare()
	if n == 0 {
		return refuse(api.ENOSPC)
	}
	t.l[n] = entry{kind: kind, data: bytes.Clone(data)}
	t.enter(dir, name, n)
	return Result{Node: n}
}

func (t *Tree) link(a, b string) Result {
	n, err := t.way(a, false)
	if err != api.OK {
		return refuse(err)
	}
	if t.l[n].kind == api.Dir {
		return refuse(api.EISDIR)
	}
	dir, name, err := t.room(b)
	if err != api.OK {
		return refuse(err)
	}
	if t.l[n].names >= api.MaxLinks {
		return refuse(api.EMLINK)
	}
	t.enter(dir, name, n)
	return Result{Node: n}
}

func (t *Tree) unlink(way string) Result {
	dir, n, name, err := t.there(way)
	if err != api.OK {
		return refuse(err)
	}
	if t.l[n].kind == api.Dir {
		return refuse(api.EISDIR)
	}
	t.leave(dir, name)
	return Result{Node: n}
}

func (t *Tree) rmdir(way string) Result {
	dir, n, name, err := t.there(way)
	switch {
	case err != api.OK:
		return refuse(err)
	case t.l[n].kind != api.Dir:
		return refuse(api.ENOTDIR)
	case n == api.Lost:
		return refuse(api.EREAD)
	case len(t.l[n].list) > 0:
		return refuse(api.ENOTEMPTY)
	}
	t.leave(dir, name)
	return Result{Node: n}
}

func (t *Tree) symlink(way string, data []byte) Result {
	if len(data) == 0 || len(data) > api.MaxPath {
		return refuse(api.EARG)
	}
	return t.make(way, api.Link, data)
}

func (t *Tree) readlink(way string) Result {
	n, err := t.way(way, false)
	if err != api.OK {
		return refuse(err)
	}
	if t.l[n].kind != api.Link {
		return refuse(api.EARG)
	}
	return Result{Node: n, Data: bytes.Clone(t.l[n].data)}
}

// file tells the file that a way leads to.
func (t *Tree) file(way string) (int, api.Errno) {
	n, err := t.way(way, true)
	if err != api.OK {
		return 0, err
	}
	if t.l[n].kind == api.Dir {
		return 0, api.EISDIR
	}
	return n, api.OK
}

func (t *Tree) read(way string, at, most int) Result {
	if at < 0 || most < 0 {
		return refuse(api.EARG)
	}
	n, err := t.file(way)
	if err != api.OK {
		return refuse(err)
	}
	data := t.l[n].data
	data = data[min(at, len(data)):]
	return Result{Node: n, Data: bytes.Clone(data[:min(most, len(data))])}
}

func (t *Tree) write(way string, at int, data []byte) Result {
	if at < 0 {
		return refuse(api.EARG)
	}
	n, err := t.file(way)
	if err != api.OK {
		return refuse(err)
	}
	if len(data) > 0 {
		if at > api.MaxFile-len(data) {
			return refuse(api.EFBIG)
		}
		t.resize(n, max(len(t.l[n].data), at+len(data)))
		copy(t.l[n].data[at:], data)
	}
	return Result{Node: n, Size: len(t.l[n].data)}
}

func (t *Tree) trunc(way string, size int) Result {
	if size < 0 {
		return refuse(api.EARG)
	}
	n, err := t.file(way)
	if err != api.OK {
		return refuse(err)
	}
	if size > api.MaxFile {
		return refuse(api.EFBIG)
	}
	t.resize(n, size)
	return Result{Node: n, Size: size}
}

// resize cuts a file, or puts noughts behind it.
func (t *Tree) resize(n, size int) {
	data := make([]byte, size)
	copy(data, t.l[n].data)
	t.l[n].data = data
}

func (t *Tree) stat(way string) Result {
	n, err := t.way(way, false)
	if err != api.OK {
		return refuse(err)
	}
	e := t.l[n]
	if e.kind == api.Dir {
		return Result{Node: n, Type: e.kind, Links: 1, Size: len(e.list)}
	}
	return Result{Node: n, Type: e.kind, Links: e.names, Size: len(e.data)}
}

func (t *Tree) names(way string) Result {
	n, err := t.way(way, true)
	if err != api.OK {
		return refuse(err)
	}
	if t.l[n].kind != api.Dir {
		return refuse(api.ENOTDIR)
	}
	var l []string
	for _, x := range t.l[n].list {
		l = append(l, x.Name)
	}
	if n == api.Root {
		at, _ := t.place(n, lost)
		l = slices.Insert(l, at, lost)
	}
	return Result{Node: n, Names: l}
}
