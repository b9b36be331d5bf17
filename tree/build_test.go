package tree_test

import (
	"bytes"
	"math"
	"slices"
	"strconv"
	"strings"
	"testing"

	"lintel/api"
	"lintel/tree"
)

type part = tree.Part

func dir(n int, l ...tree.Name) part { return part{Node: n, Type: api.Dir, Names: l} }
func file(n int, s string) part      { return part{Node: n, Type: api.File, Data: []byte(s)} }
func soft(n int, s string) part      { return part{Node: n, Type: api.Link, Data: []byte(s)} }
func name(s string, n int) tree.Name { return tree.Name{Name: s, Node: n} }
func sameParts(a, b []part) bool     { return slices.EqualFunc(a, b, samePart) }
func samePart(a, b part) bool {
	return a.Node == b.Node && a.Type == b.Type && bytes.Equal(a.Data, b.Data) && slices.Equal(a.Names, b.Names)
}

func build(t *testing.T, nodes int, l ...part) *tree.Tree {
	t.Helper()
	x, err := tree.Build(nodes, l...)
	if err != api.OK {
		t.Fatal(err)
	}
	return x
}

func TestNew(t *testing.T) {
	for nodes, room := range map[int]int{math.MinInt: 0, -1: 0, 0: 0, 2: 0, 3: 1, 10: 8, 64: 62, 65: 62, math.MaxInt: 62} {
		x := tree.New(nodes)
		if !sameParts(x.Parts(), []part{dir(1), dir(2)}) {
			t.Errorf("New(%d): %v", nodes, x.Parts())
		}
		n := 0
		for x.Do(on(create, "/f"+strconv.Itoa(n))).Err == api.OK {
			n++
		}
		if n != room {
			t.Errorf("New(%d): room for %d", nodes, n)
		}
	}
}

func TestParts(t *testing.T) {
	x := tree.New(10)
	for _, o := range []tree.Op{on(mkdir, "/z"), on(create, "/a"), put("/a", 0, "abc"), sym("way", "/z/l"), two(link, "/a", "/z/b"), on(create, "/gone"), on(mkdir, "/z/d"), on(unlink, "/gone")} {
		if r := x.Do(o); r.Err != api.OK {
			t.Fatal(r)
		}
	}
	want := []part{dir(1, name("a", 4), name("z", 3)), dir(2), dir(3, name("b", 4), name("d", 7), name("l", 5)), file(4, "abc"), soft(5, "way"), dir(7)}
	l := x.Parts()
	if !sameParts(l, want) {
		t.Fatalf("Parts: %v", l)
	}
	l[0].Names[0].Node, l[3].Data[0] = 9, 'z'
	if !sameParts(x.Parts(), want) {
		t.Error("Parts shares its memory")
	}
	slices.Reverse(want)
	slices.Reverse(want[3].Names)
	y := build(t, 10, want...)
	if !tree.Same(x, y) || !sameParts(y.Parts(), x.Parts()) {
		t.Errorf("Build of Parts: %v", y.Parts())
	}
	want[2].Data[0], want[3].Names[0].Node = 'z', 9
	if !tree.Same(x, y) || want[3].Names[0].Name != "l" {
		t.Error("Build shares its memory, or sorts what it is given")
	}
	for _, o := range []tree.Op{on(stat, "/z/b"), on(stat, "/"), on(list, "/z/d/.."), on(create, "/z/n"), on(unlink, "/a"), on(stat, "/z/b"), on(create, "/more")} {
		if a, b := x.Do(o), y.Do(o); !same(a, b) {
			t.Errorf("%v: %v, but built anew %v", o, a, b)
		}
	}
}

func TestBuildSome(t *testing.T) {
	x := build(t, 5, dir(2, name("#3", 3), name("#5", 5)), dir(1, name("f", 5), name("#5", 5)), dir(3, name("lost+found", 4)), dir(4), file(5, ""))
	play(t, x,
		line{on(stat, "/lost+found/#5"), told(5, 1, 3, 0)}, line{on(stat, "/lost+found"), told(2, 2, 1, 2)}, line{on(stat, "/lost+found/#3/.."), told(2, 2, 1, 2)}, line{on(list, "/lost+found/#3/lost+found/.."), names(3, "lost+found")},
		line{on(create, "/lost+found/#4"), bad(api.EREAD)}, line{two(rename, "/lost+found/#3", "/d"), node(3)}, line{on(stat, "/d/.."), told(1, 2, 1, 3)}, line{on(unlink, "/lost+found/#5"), node(5)}, line{on(list, "/lost+found"), names(2)},
		line{two(rename, "/f", "/lost+found/#5"), bad(api.EREAD)}, line{two(rename, "/d/lost+found", "/d/e"), node(4)}, line{on(rmdir, "/d/e"), node(4)},
	)
	if _, err := tree.Build(2, dir(1), dir(2)); err != api.OK {
		t.Error("Build of two nodes")
	}
	if _, err := tree.Build(64, dir(1), dir(2)); err != api.OK {
		t.Error("Build of 64 nodes")
	}
}

func TestBuildRefused(t *testing.T) {
	long := strings.Repeat("x", 40)
	many := func(n int) []tree.Name {
		var l []tree.Name
		for i := range n {
			l = append(l, name("n"+strconv.Itoa(i), 3))
		}
		return l
	}
	for what, c := range map[string]struct {
		nodes int
		l     []part
		ok    bool
	}{
		"nothing":                 {10, nil, false},
		"one node":                {1, []part{dir(1), dir(2)}, false},
		"no nodes":                {math.MinInt, []part{dir(1), dir(2)}, false},
		"65 nodes":                {65, []part{dir(1), dir(2)}, false},
		"no Lost":                 {10, []part{dir(1)}, false},
		"no Root":                 {10, []part{dir(2)}, false},
		"Root a File":             {10, []part{file(1, ""), dir(2)}, false},
		"Lost a File":             {10, []part{dir(1), file(2, "")}, false},
		"twice":                   {10, []part{dir(1), dir(2), dir(1)}, false},
		"node 0":                  {10, []part{dir(1), dir(2), dir(0)}, false},
		"node -1":                 {10, []part{dir(1), dir(2), dir(-1)}, false},
		"node 4 of 3":             {3, []part{dir(1, name("a", 4)), dir(2), file(4, "")}, false},
		"node 4 of 4":             {4, []part{dir(1, name("a", 4)), dir(2), file(4, "")}, true},
		"Type 0":                  {10, []part{dir(1, name("a", 3)), dir(2), {Node: 3}}, false},
		"Type 4":                  {10, []part{dir(1, name("a", 3)), dir(2), {Node: 3, Type: 4}}, false},
		"Type -1":                 {10, []part{dir(1, name("a", 3)), dir(2), {Node: 3, Type: -1}}, false},
		"a Dir with Data":         {10, []part{dir(1), {Node: 2, Type: 2, Data: []byte("x")}}, false},
		"a File with Names":       {10, []part{dir(1, name("a", 3)), dir(2), {Node: 3, Type: 1, Names: []tree.Name{{Name: "b", Node: 4}}}, file(4, "")}, false},
		"a Link with Names":       {10, []part{dir(1, name("a", 3), name("b", 4)), dir(2), {Node: 3, Type: 3, Data: []byte("x"), Names: []tree.Name{{Name: "b", Node: 4}}}, file(4, "")}, false},
		"a long File":             {10, []part{dir(1, name("a", 3)), dir(2), file(3, strings.Repeat("x", 4096))}, true},
		"too long a File":         {10, []part{dir(1, name("a", 3)), dir(2), file(3, strings.Repeat("x", 4097))}, false},
		"an empty Link":           {10, []part{dir(1, name("a", 3)), dir(2), soft(3, "")}, false},
		"a long Link":             {10, []part{dir(1, name("a", 3)), dir(2), soft(3, strings.Repeat("x", 400))}, true},
		"too long a Link":         {10, []part{dir(1, name("a", 3)), dir(2), soft(3, strings.Repeat("x", 401))}, false},
		"a name of none":          {10, []part{dir(1, name("a", 3)), dir(2)}, false},
		"a name of node 0":        {10, []part{dir(1, name("a", 0)), dir(2)}, false},
		"a name of node -1":       {10, []part{dir(1, name("a", -1)), dir(2)}, false},
		"a name of node 11":       {10, []part{dir(1, name("a", 11)), dir(2)}, false},
		"a name of Root":          {10, []part{dir(1, name("a", 1)), dir(2)}, false},
		"a name of Lost":          {10, []part{dir(1, name("a", 2)), dir(2)}, false},
		"Lost among Root's":       {10, []part{dir(1, name("lost+found", 2)), dir(2)}, false},
		"lost+found in Root":      {10, []part{dir(1, name("lost+found", 3)), dir(2), file(3, "")}, false},
		"an empty name":           {10, []part{dir(1, name("", 3)), dir(2), file(3, "")}, false},
		"a dot":                   {10, []part{dir(1, name(".", 3)), dir(2), file(3, "")}, false},
		"two dots":                {10, []part{dir(1, name("..", 3)), dir(2), file(3, "")}, false},
		"a slash":                 {10, []part{dir(1, name("a/b", 3)), dir(2), file(3, "")}, false},
		"a long name":             {10, []part{dir(1, name(long, 3)), dir(2), file(3, "")}, true},
		"too long a name":         {10, []part{dir(1, name(long+"x", 3)), dir(2), file(3, "")}, false},
		"another name in Lost":    {10, []part{dir(1), dir(2, name("#4", 3)), file(3, "")}, false},
		"a name in Lost":          {10, []part{dir(1), dir(2, name("a", 3)), file(3, "")}, false},
		"noughts in Lost":         {10, []part{dir(1), dir(2, name("#03", 3)), file(3, "")}, false},
		"well in Lost":            {10, []part{dir(1), dir(2, name("#3", 3)), file(3, "")}, true},
		"one name twice":          {10, []part{dir(1, name("a", 3), name("b", 4), name("a", 4)), dir(2), file(3, ""), file(4, "")}, false},
		"one name, same node":     {10, []part{dir(1, name("a", 3), name("a", 3)), dir(2), file(3, "")}, false},
		"a Dir of two names":      {10, []part{dir(1, name("a", 3), name("b", 3)), dir(2), dir(3)}, false},
		"a Dir in two":            {10, []part{dir(1, name("a", 3)), dir(2, name("#3", 3)), dir(3)}, false},
		"a Dir of no name":        {10, []part{dir(1), dir(2), dir(3)}, false},
		"a File of no name":       {10, []part{dir(1), dir(2), file(3, "")}, false},
		"a Link of no name":       {10, []part{dir(1), dir(2), soft(3, "x")}, false},
		"a Dir in itself":         {10, []part{dir(1), dir(2), dir(3, name("a", 3))}, false},
		"two Dirs in each other":  {10, []part{dir(1), dir(2), dir(3, name("a", 4)), dir(4, name("a", 3))}, false},
		"a File in a lost circle": {10, []part{dir(1, name("f", 5)), dir(2), dir(3, name("a", 4), name("f", 5)), dir(4, name("a", 3)), file(5, "")}, false},
		"200 names":               {10, []part{dir(1, many(200)...), dir(2), file(3, "")}, true},
		"201 names":               {10, []part{dir(1, many(201)...), dir(2), file(3, "")}, false},
		"a deep one":              {10, []part{dir(10), dir(9, name("a", 10)), dir(8, name("a", 9)), dir(7, name("a", 8)), dir(6, name("a", 7)), dir(5, name("a", 6)), dir(4, name("a", 5)), dir(3, name("a", 4)), dir(2, name("#3", 3)), dir(1)}, true},
	} {
		x, err := tree.Build(c.nodes, c.l...)
		if (err == api.OK) != c.ok || (x != nil) != c.ok || (!c.ok && err != api.EARG) {
			t.Errorf("%s: %v", what, err)
		}
	}
}

func TestCloneAndSame(t *testing.T) {
	x := build(t, 10, dir(1, name("a", 3), name("b", 4)), dir(2), file(3, "abc"), dir(4))
	c := x.Clone()
	if !tree.Same(x, c) || !sameParts(c.Parts(), x.Parts()) {
		t.Error("a clone is another")
	}
	for _, o := range []tree.Op{put("/a", 1, "z"), on(create, "/b/n"), on(unlink, "/a"), size("/a", 2), two(rename, "/a", "/c"), two(link, "/a", "/d")} {
		c := x.Clone()
		if r := c.Do(o); r.Err != api.OK || tree.Same(x, c) || tree.Same(c, x) {
			t.Errorf("%v: the clone is the same, or shares: %v", o, r)
		}
		play(t, x, line{get("/a", 0, 9), data(3, "abc")}, line{on(list, "/b"), names(4)}, line{on(list, "/"), names(1, "a", "b", "lost+found")})
	}
	if tree.Same(tree.New(10), tree.New(11)) || !tree.Same(tree.New(64), tree.New(65)) {
		t.Error("Same of another number of nodes")
	}
	if tree.Same(build(t, 10, dir(1, name("a", 3)), dir(2), soft(3, "x")), build(t, 10, dir(1, name("a", 3)), dir(2), file(3, "x"))) {
		t.Error("Same of other Types")
	}
}
