package tree_test

import (
	"bytes"
	"math"
	"slices"
	"strconv"
	"strings"
	"testing"

	"lintel/api"
	"lintel/tree"
)

const (
	mkdir = iota + 1
	create
	link
	unlink
	rmdir
	rename
	symlink
	readlink
	read
	write
	trunc
	stat
	list
)

func on(kind int, a string) tree.Op     { return tree.Op{Kind: kind, A: a} }
func two(kind int, a, b string) tree.Op { return tree.Op{Kind: kind, A: a, B: b} }
func sym(way, a string) tree.Op         { return tree.Op{Kind: symlink, A: a, Data: []byte(way)} }
func put(a string, at int, data string) tree.Op {
	return tree.Op{Kind: write, A: a, At: at, Data: []byte(data)}
}
func get(a string, at, n int) tree.Op      { return tree.Op{Kind: read, A: a, At: at, N: n} }
func size(a string, n int) tree.Op         { return tree.Op{Kind: trunc, A: a, N: n} }
func node(n int) tree.Result               { return tree.Result{Node: n} }
func sized(n, size int) tree.Result        { return tree.Result{Node: n, Size: size} }
func bad(err api.Errno) tree.Result        { return tree.Result{Err: err} }
func data(n int, s string) tree.Result     { return tree.Result{Node: n, Data: []byte(s)} }
func names(n int, l ...string) tree.Result { return tree.Result{Node: n, Names: l} }
func told(n, typ, links, size int) tree.Result {
	return tree.Result{Node: n, Type: typ, Links: links, Size: size}
}

func same(a, b tree.Result) bool {
	return a.Err == b.Err && a.Node == b.Node && a.Type == b.Type && a.Links == b.Links && a.Size == b.Size && bytes.Equal(a.Data, b.Data) && slices.Equal(a.Names, b.Names)
}

type line struct {
	o    tree.Op
	want tree.Result
}

// play does things, and holds what they tell against what they should; what is refused, or only reads, changes nothing.
func play(t *testing.T, x *tree.Tree, l ...line) {
	t.Helper()
	for i, c := range l {
		was := x.Clone()
		given := bytes.Clone(c.o.Data)
		if got := x.Do(c.o); !same(got, c.want) {
			t.Errorf("line %d: %+v: %+v, not %+v", i, c.o, got, c.want)
		}
		if (c.want.Err != api.OK || tree.Reads(c.o.Kind)) && !tree.Same(x, was) {
			t.Errorf("line %d: %+v changed the tree", i, c.o)
		}
		if !bytes.Equal(c.o.Data, given) {
			t.Errorf("line %d: its Data is changed", i)
		}
		if _, err := tree.Build(len(x.Parts())+20, x.Parts()...); err != api.OK {
			t.Fatalf("line %d: %+v: no tree any more", i, c.o)
		}
	}
}

func TestKinds(t *testing.T) {
	for _, kind := range []int{0, -1, 14, math.MaxInt, math.MinInt} {
		play(t, tree.New(10), line{on(kind, "/a"), bad(api.EARG)})
	}
	for kind := -1; kind < 20; kind++ {
		if tree.Reads(kind) != slices.Contains([]int{8, 9, 12, 13}, kind) {
			t.Errorf("Reads(%d): %v", kind, tree.Reads(kind))
		}
	}
}

func TestMakeDir(t *testing.T) {
	play(t, tree.New(6),
		line{on(mkdir, "/a"), node(3)},
		line{on(mkdir, "a/b"), node(4)}, // a way of nobody's begins at Root
		line{on(mkdir, "/a/../a/b/c/"), node(5)},
		line{on(mkdir, ""), bad(api.EARG)}, line{on(mkdir, "/"), bad(api.EARG)}, line{on(mkdir, "/a/.."), bad(api.EARG)}, line{on(mkdir, "/q/."), bad(api.EARG)}, line{on(mkdir, "."), bad(api.EARG)},
		line{on(mkdir, "/"+strings.Repeat("x", 41)), bad(api.ENAME)}, line{on(mkdir, "/a\x00"), bad(api.ENAME)}, line{on(mkdir, "/none/"+strings.Repeat("x", 41)), bad(api.ENAME)},
		line{on(mkdir, "/none/d"), bad(api.ENOENT)},
		line{on(mkdir, "/a/b"), bad(api.EEXIST)}, line{on(mkdir, "/lost+found"), bad(api.EEXIST)},
		line{on(mkdir, "/lost+found/d"), bad(api.EREAD)},
		line{on(create, "/f"), node(6)},
		line{on(mkdir, "/f/d"), bad(api.ENOTDIR)}, line{on(mkdir, "/f/../d"), bad(api.ENOTDIR)},
		line{on(mkdir, "/d"), bad(api.ENOSPC)}, line{on(create, "/d"), bad(api.ENOSPC)}, line{sym("d", "/d"), bad(api.ENOSPC)},
		line{on(mkdir, "/a"), bad(api.EEXIST)}, line{on(mkdir, "/lost+found/d"), bad(api.EREAD)},
		line{on(rmdir, "/a/b/c"), node(5)},
		line{on(unlink, "/f"), node(6)},
		line{on(mkdir, "/d"), node(5)}, // the least number that is not there
		line{on(create, "/e"), node(6)},
	)
}

func TestCreate(t *testing.T) {
	long := strings.Repeat("x", 40)
	play(t, tree.New(10),
		line{on(create, "/f"), node(3)}, line{on(create, "/f"), bad(api.EEXIST)}, line{on(create, long), node(4)}, line{on(create, "/lost+found"), bad(api.EEXIST)},
		line{on(create, "/lost+found/#5"), bad(api.EREAD)}, line{on(create, "/f/g"), bad(api.ENOTDIR)}, line{on(create, "/x/g"), bad(api.ENOENT)}, line{on(create, "/.."), bad(api.EARG)},
		line{on(stat, "/f"), told(3, 1, 1, 0)}, line{get("/f", 0, 9), data(3, "")}, line{on(list, "/"), names(1, "f", "lost+found", long)},
	)
}

func TestLinks(t *testing.T) {
	play(t, tree.New(10),
		line{on(create, "/f"), node(3)}, line{on(mkdir, "/d"), node(4)}, line{sym("f", "/l"), node(5)},
		line{two(link, "/f", "/d/g"), node(3)}, line{on(stat, "/d/g"), told(3, 1, 2, 0)},
		line{two(link, "/l", "/m"), node(5)}, line{on(stat, "/m"), told(5, 3, 2, 1)}, // the Link itself
		line{two(link, "/d", "/e"), bad(api.EISDIR)}, line{two(link, "/", "/e"), bad(api.EISDIR)}, line{two(link, "/d/..", ""), bad(api.EISDIR)}, line{two(link, "/lost+found", "/e"), bad(api.EISDIR)},
		line{two(link, "", "/e"), bad(api.EARG)}, line{two(link, "/none", ""), bad(api.ENOENT)}, line{two(link, "/f/x", ""), bad(api.ENOTDIR)}, line{two(link, "/d/"+strings.Repeat("x", 41), ""), bad(api.ENAME)},
		line{two(link, "/f", ""), bad(api.EARG)}, line{two(link, "/f", "/"), bad(api.EARG)}, line{two(link, "/f", "/none/x"), bad(api.ENOENT)}, line{two(link, "/f", "/f/x"), bad(api.ENOTDIR)},
		line{two(link, "/f", "/d"), bad(api.EEXIST)}, line{two(link, "/f", "/f"), bad(api.EEXIST)}, line{two(link, "/f", "/lost+found"), bad(api.EEXIST)}, line{two(link, "/f", "/lost+found/#3"), bad(api.EREAD)},
		line{put("/d/g", 0, "ab"), sized(3, 2)}, line{on(unlink, "/f"), node(3)}, line{get("/d/g", 0, 9), data(3, "ab")}, line{on(stat, "/d/g"), told(3, 1, 1, 2)},
		line{on(unlink, "/d/g"), node(3)}, line{on(create, "/n"), node(3)}, line{get("/n", 0, 9), data(3, "")},
	)
}

func TestMaxLinks(t *testing.T) {
	x := tree.New(64)
	x.Do(on(create, "/f"))
	for i := 1; i < 200; i++ {
		play(t, x, line{two(link, "/f", "/f"+strconv.Itoa(i)), node(3)})
	}
	play(t, x,
		line{on(stat, "/f7"), told(3, 1, 200, 0)},
		line{two(link, "/f", "/more"), bad(api.EMLINK)}, line{two(link, "/f", "/f7"), bad(api.EEXIST)}, line{two(link, "/f", "/lost+found/x"), bad(api.EREAD)},
		line{two(rename, "/f7", "/more"), node(3)}, line{on(unlink, "/f8"), node(3)}, line{two(link, "/f", "/f8"), node(3)},
	)
}

func TestUnlink(t *testing.T) {
	play(t, tree.New(10),
		line{on(create, "/f"), node(3)}, line{on(mkdir, "/d"), node(4)}, line{sym("/d", "/l"), node(5)}, line{on(create, "/l/g"), node(6)},
		line{on(unlink, ""), bad(api.EARG)}, line{on(unlink, "/"), bad(api.EARG)}, line{on(unlink, "/none"), bad(api.ENOENT)}, line{on(unlink, "/none/x"), bad(api.ENOENT)}, line{on(unlink, "/f/x"), bad(api.ENOTDIR)},
		line{on(unlink, "/d"), bad(api.EISDIR)}, line{on(unlink, "/lost+found"), bad(api.EISDIR)},
		line{on(unlink, "/l/g"), node(6)}, line{on(unlink, "/l/"), node(5)}, line{on(unlink, "/f"), node(3)}, line{on(unlink, "/f"), bad(api.ENOENT)}, line{on(list, "/"), names(1, "d", "lost+found")},
	)
}

func TestRemoveDir(t *testing.T) {
	play(t, tree.New(10),
		line{on(create, "/f"), node(3)}, line{on(mkdir, "/d"), node(4)}, line{on(mkdir, "/d/e"), node(5)}, line{sym("/d/e", "/l"), node(6)},
		line{on(rmdir, ""), bad(api.EARG)}, line{on(rmdir, "/"), bad(api.EARG)}, line{on(rmdir, "/none"), bad(api.ENOENT)}, line{on(rmdir, "/f/x"), bad(api.ENOTDIR)}, line{on(rmdir, "/f"), bad(api.ENOTDIR)}, line{on(rmdir, "/l"), bad(api.ENOTDIR)},
		line{on(rmdir, "/lost+found"), bad(api.EREAD)}, line{on(rmdir, "/d"), bad(api.ENOTEMPTY)}, line{on(rmdir, "/d/e"), node(5)}, line{on(rmdir, "/d"), node(4)}, line{on(stat, "/d"), bad(api.ENOENT)},
	)
}

func TestRename(t *testing.T) {
	play(t, tree.New(12),
		line{on(create, "/f"), node(3)}, line{on(mkdir, "/d"), node(4)}, line{on(mkdir, "/d/e"), node(5)}, line{on(create, "/d/g"), node(6)}, line{on(mkdir, "/h"), node(7)}, line{sym("/d", "/l"), node(8)},
		// errors, in order
		line{two(rename, "", "/x"), bad(api.EARG)}, line{two(rename, "/", strings.Repeat("x", 41)), bad(api.EARG)}, line{two(rename, "/none", "/"), bad(api.EARG)}, line{two(rename, "/none/x", strings.Repeat("x", 41)), bad(api.ENAME)},
		line{two(rename, "/f/x", "/lost+found/y"), bad(api.ENOTDIR)}, line{two(rename, "/none", "/none/x"), bad(api.ENOENT)}, line{two(rename, "/lost+found", "/none/x"), bad(api.EREAD)},
		line{two(rename, "/f", "/none/x"), bad(api.ENOENT)}, line{two(rename, "/f", "/f/x"), bad(api.ENOTDIR)}, line{two(rename, "/f", "/lost+found/#3"), bad(api.EREAD)}, line{two(rename, "/d", "/lost+found/#4"), bad(api.EREAD)},
		line{two(rename, "/d", "/d/x"), bad(api.EARG)}, line{two(rename, "/d", "/d/e/x"), bad(api.EARG)}, line{two(rename, "/d", "/d/e"), bad(api.EARG)}, line{two(rename, "/d", "/l/x"), bad(api.EARG)},
		line{two(rename, "/f", "/lost+found"), bad(api.EREAD)}, line{two(rename, "/d", "/lost+found"), bad(api.EREAD)}, line{two(rename, "/f", "/d"), bad(api.EISDIR)}, line{two(rename, "/d", "/f"), bad(api.ENOTDIR)}, line{two(rename, "/d", "/l"), bad(api.ENOTDIR)},
		line{two(rename, "/h", "/d"), bad(api.ENOTEMPTY)}, line{two(rename, "/d/e", "/d"), bad(api.ENOTEMPTY)}, line{two(rename, "/d/g", "/d"), bad(api.EISDIR)},
		// nothing
		line{two(rename, "/f", "/f"), node(3)}, line{two(rename, "/d", "/d/../d"), node(4)},
		// done
		line{two(rename, "/f", "/d/f"), node(3)}, line{on(list, "/d"), names(4, "e", "f", "g")}, line{on(stat, "/d/f"), told(3, 1, 1, 0)}, line{on(stat, "/f"), bad(api.ENOENT)},
		line{two(rename, "/d/f", "/d/g"), node(3)}, line{on(list, "/d"), names(4, "e", "g")}, line{on(create, "/new"), node(6)}, // 6 lost its only name
		line{two(rename, "/d", "/h"), node(4)}, line{on(list, "/h"), names(4, "e", "g")}, line{on(list, "/"), names(1, "h", "l", "lost+found", "new")},
		line{two(rename, "/h/e", "/e"), node(5)}, line{on(mkdir, "/e/../e/z"), node(7)}, line{two(rename, "/h", "/e/h"), node(4)}, line{on(list, "/e/h/.."), names(5, "h", "z")},
		line{two(rename, "/l", "/new"), node(8)}, line{on(readlink, "/new"), data(8, "/d")},
	)
}

func TestRenameOfLinks(t *testing.T) {
	play(t, tree.New(12),
		line{on(create, "/f"), node(3)}, line{two(link, "/f", "/g"), node(3)}, line{two(link, "/f", "/h"), node(3)}, line{on(create, "/i"), node(4)},
		line{two(rename, "/f", "/g"), node(3)}, line{on(list, "/"), names(1, "f", "g", "h", "i", "lost+found")}, // two names of one: nothing
		line{two(rename, "/i", "/g"), node(4)}, line{on(stat, "/f"), told(3, 1, 2, 0)}, line{on(list, "/"), names(1, "f", "g", "h", "lost+found")},
		line{sym("f", "/s"), node(5)}, line{two(rename, "/f", "/s"), node(3)}, line{on(stat, "/s"), told(3, 1, 2, 0)}, line{on(create, "/n"), node(5)},
	)
}

func TestSymlink(t *testing.T) {
	way := strings.Repeat("a", 400)
	play(t, tree.New(10),
		line{sym("", "/l"), bad(api.EARG)}, line{sym(way+"a", "/none/l"), bad(api.EARG)}, line{sym("", ""), bad(api.EARG)},
		line{sym(way, "/l"), node(3)}, line{on(readlink, "/l"), data(3, way)}, line{on(stat, "/l"), told(3, 3, 1, 400)}, line{on(stat, "/l/x"), bad(api.ENAME)}, line{get("/l", 0, 1), bad(api.ENAME)},
		line{sym("x", "/l"), bad(api.EEXIST)}, line{sym("x", "/lost+found/l"), bad(api.EREAD)}, line{sym("x", ""), bad(api.EARG)}, line{sym("x", "/none/l"), bad(api.ENOENT)}, line{sym("x", "/lost+found"), bad(api.EEXIST)},
		line{sym("x", "/m"), node(4)}, line{on(readlink, "/m"), data(4, "x")}, line{on(readlink, ""), bad(api.EARG)}, line{on(readlink, "/"), bad(api.EARG)}, line{on(readlink, "/lost+found"), bad(api.EARG)}, line{on(readlink, "/none"), bad(api.ENOENT)},
		line{on(create, "/f"), node(5)}, line{on(readlink, "/f"), bad(api.EARG)}, line{on(readlink, "/f/x"), bad(api.ENOTDIR)}, line{sym("a\x00", "/z"), node(6)}, line{on(list, "/z"), bad(api.ENAME)}, line{on(list, "/z/x"), bad(api.ENAME)},
	)
}

func TestWays(t *testing.T) {
	play(t, tree.New(30),
		line{on(mkdir, "/a"), node(3)}, line{on(mkdir, "/a/b"), node(4)}, line{on(create, "/a/b/f"), node(5)}, line{put("/a/b/f", 0, "x"), sized(5, 1)},
		line{sym("/a/b", "/abs"), node(6)}, line{sym("b", "/a/rel"), node(7)}, line{sym("..", "/a/b/up"), node(8)}, line{sym("f", "/a/b/lf"), node(9)}, line{sym("/", "/a/root"), node(10)}, line{sym("none", "/dead"), node(11)}, line{sym(".", "/a/here"), node(12)},
		line{on(list, "/abs"), names(4, "f", "lf", "up")}, line{on(list, "/a/rel/"), names(4, "f", "lf", "up")}, line{on(stat, "/abs"), told(6, 3, 1, 4)}, line{on(stat, "/abs/"), told(6, 3, 1, 4)}, line{on(stat, "/abs/.."), told(3, 2, 1, 4)},
		line{on(list, "/a/rel/up"), names(3, "b", "here", "rel", "root")}, line{get("/a/b/lf", 0, 5), data(5, "x")}, line{get("/abs/lf", 0, 5), data(5, "x")}, line{on(stat, "/a/root/a/b/f"), told(5, 1, 1, 1)}, line{on(list, "/a/here"), names(3, "b", "here", "rel", "root")},
		line{on(stat, "/a/b/lf/x"), bad(api.ENOTDIR)}, line{on(stat, "/a/b/lf/.."), bad(api.ENOTDIR)}, line{on(stat, "/a/b/f/."), told(5, 1, 1, 1)}, line{on(list, "/a/b/lf"), bad(api.ENOTDIR)}, line{on(mkdir, "/a/b/lf/x"), bad(api.ENOTDIR)},
		line{on(list, "/dead"), bad(api.ENOENT)}, line{on(stat, "/dead"), told(11, 3, 1, 4)}, line{get("/dead", 0, 1), bad(api.ENOENT)}, line{on(mkdir, "/dead/x"), bad(api.ENOENT)}, line{on(create, "/dead"), bad(api.EEXIST)},
		line{on(stat, "/.."), told(1, 2, 1, 3)}, line{on(stat, "/../../a/.."), told(1, 2, 1, 3)}, line{on(stat, "/lost+found/.."), told(1, 2, 1, 3)}, line{on(stat, "."), told(1, 2, 1, 3)}, line{on(stat, "lost+found"), told(2, 2, 1, 0)},
		line{on(mkdir, "/a/rel/n"), node(13)}, line{on(list, "/a/b/n/.."), names(4, "f", "lf", "n", "up")}, line{on(unlink, "/abs/lf"), node(9)}, line{two(rename, "/a/rel/f", "/abs/g"), node(5)},
		line{sym("/lost+found", "/lf"), node(9)}, line{on(create, "/lf/x"), bad(api.EREAD)}, line{on(rmdir, "/lf"), bad(api.ENOTDIR)}, line{on(list, "/lf"), names(2)},
	)
}

func TestHops(t *testing.T) {
	x := tree.New(64)
	x.Do(on(mkdir, "/l0"))
	for i := 1; i <= 9; i++ {
		play(t, x, line{sym("l"+strconv.Itoa(i-1), "/l"+strconv.Itoa(i)), node(3 + i)})
	}
	x.Do(sym("loop", "/loop"))
	play(t, x,
		line{on(list, "/l8"), names(3)}, line{on(list, "/l9"), bad(api.ELOOP)}, line{on(stat, "/l9"), told(12, 3, 1, 2)}, line{on(list, "/l9/.."), bad(api.ELOOP)}, line{on(list, "/loop"), bad(api.ELOOP)}, line{on(mkdir, "/loop/x"), bad(api.ELOOP)},
		line{on(list, "/l4/../l4"), names(3)}, line{on(list, "/l4/../l5"), bad(api.ELOOP)}, // all links of one way count
		line{on(mkdir, "/l8/a"), node(14)}, line{two(rename, "/l8/a", "/l8/b"), node(14)}, line{two(link, "/l9", "/l8/m"), node(12)}, // each way by itself
	)
}

func TestReadAndWrite(t *testing.T) {
	play(t, tree.New(10),
		line{on(create, "/f"), node(3)}, line{on(mkdir, "/d"), node(4)}, line{sym("f", "/l"), node(5)},
		line{put("/f", 2, "cd"), sized(3, 4)}, line{get("/f", 0, 9), data(3, "\x00\x00cd")}, line{put("/l", 0, "ab"), sized(3, 4)}, line{get("/l", 0, 4), data(3, "abcd")}, line{put("/f", 3, "xyz"), sized(3, 6)},
		line{get("/f", 1, 2), data(3, "bc")}, line{get("/f", 0, 0), data(3, "")}, line{get("/f", 5, 9), data(3, "z")}, line{get("/f", 6, 9), data(3, "")}, line{get("/f", 7, 9), data(3, "")}, line{get("/f", math.MaxInt, math.MaxInt), data(3, "")}, line{get("/f", 2, math.MaxInt), data(3, "cxyz")},
		line{get("/none", -1, 0), bad(api.EARG)}, line{get("/none", 0, -1), bad(api.EARG)}, line{get("/none", 0, 0), bad(api.ENOENT)}, line{get("/d", 0, 0), bad(api.EISDIR)}, line{get("/", 0, 0), bad(api.EISDIR)}, line{get("", 0, 0), bad(api.EARG)},
		line{put("/none", -1, ""), bad(api.EARG)}, line{put("/none", 5000, "x"), bad(api.ENOENT)}, line{put("/d", 5000, "x"), bad(api.EISDIR)}, line{put("/f", 4096, "x"), bad(api.EFBIG)}, line{put("/f", 4095, "xy"), bad(api.EFBIG)}, line{put("/f", math.MaxInt, "x"), bad(api.EFBIG)},
		line{put("/f", 0, strings.Repeat("x", 4097)), bad(api.EFBIG)}, line{put("/f", math.MaxInt, ""), sized(3, 6)}, line{put("/f", 9, ""), sized(3, 6)}, line{put("/f", 4095, "x"), sized(3, 4096)}, line{get("/f", 4090, 9), data(3, "\x00\x00\x00\x00\x00x")},
		line{size("/f", 3), sized(3, 3)}, line{size("/l", 5), sized(3, 5)}, line{get("/f", 0, 9), data(3, "abc\x00\x00")}, line{size("/f", 4096), sized(3, 4096)}, line{size("/f", 4097), bad(api.EFBIG)}, line{size("/f", -1), bad(api.EARG)}, line{size("/f", math.MaxInt), bad(api.EFBIG)},
		line{size("/none", -1), bad(api.EARG)}, line{size("/none", 9999), bad(api.ENOENT)}, line{size("/d", 9999), bad(api.EISDIR)}, line{size("/f", 0), sized(3, 0)}, line{size("/f", 0), sized(3, 0)}, line{on(stat, "/f"), told(3, 1, 1, 0)},
	)
}

func TestStatAndList(t *testing.T) {
	play(t, tree.New(10),
		line{on(stat, "/"), told(1, 2, 1, 0)}, line{on(stat, "/lost+found"), told(2, 2, 1, 0)}, line{on(list, "/"), names(1, "lost+found")}, line{on(list, "/lost+found"), names(2)},
		line{on(mkdir, "/z"), node(3)}, line{on(mkdir, "/a"), node(4)}, line{on(create, "/\xff"), node(5)}, line{on(create, "/m"), node(6)}, line{on(create, "/B"), node(7)}, line{on(mkdir, "/a/d"), node(8)},
		line{on(list, "/"), names(1, "B", "a", "lost+found", "m", "z", "\xff")}, line{on(stat, "/"), told(1, 2, 1, 5)}, line{on(stat, "/a"), told(4, 2, 1, 1)}, line{on(list, "/m"), bad(api.ENOTDIR)}, line{on(list, ""), bad(api.EARG)}, line{on(list, "/q"), bad(api.ENOENT)},
		line{on(stat, ""), bad(api.EARG)}, line{on(stat, "/q"), bad(api.ENOENT)}, line{on(stat, "/m/q"), bad(api.ENOTDIR)}, line{on(stat, strings.Repeat("a/", 201)), bad(api.ENAME)},
	)
}

func TestOwnMemory(t *testing.T) {
	x := tree.New(10)
	x.Do(on(create, "/f"))
	o := put("/f", 0, "abc")
	x.Do(o)
	o.Data[0] = 'z'
	way := sym("abc", "/l")
	x.Do(way)
	way.Data[0] = 'z'
	x.Do(get("/f", 0, 9)).Data[1] = 'z'
	x.Do(on(readlink, "/l")).Data[1] = 'z'
	play(t, x, line{get("/f", 0, 9), data(3, "abc")}, line{on(readlink, "/l"), data(4, "abc")})
}
