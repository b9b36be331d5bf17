package mend_test

import (
	"math/rand"
	"slices"
	"strconv"
	"strings"
	"testing"

	"lintel/api"
	"lintel/check"
	"lintel/cure"
	"lintel/deed"
	"lintel/disk"
	"lintel/geom"
	"lintel/head"
	"lintel/image"
	"lintel/mend"
	"lintel/node"
	"lintel/pmem"
	"lintel/redo"
	"lintel/slot"
	"lintel/tree"
)

var (
	plain = geom.Plain(64)                                          // book 1, bits 21, nodes 22 to 31, lost 32 to 41, data 42 to 62
	wide  = geom.Geom{Blocks: 128, Nodes: 12, Clients: 2, Book: 16} // books 1, 17, bits 33, nodes 34 to 45, lost 46 to 57, data 58 to 126
)

func run(from, n int) node.Run { return node.Run{From: from, Len: n} }

func thing(typ, links, size int, l ...node.Run) node.Node {
	return node.Node{Type: typ, Links: links, Size: size, Runs: l}
}

func put(l []uint64, block int, words []uint64) { copy(l[8*block:8*block+8], words) }

func setSlot(l []uint64, block, n int, name string) {
	put(l, block, slot.Put(slot.Slot{Node: n, Name: name}))
}

// whole is a fine image with some files.
func whole(t *testing.T, g geom.Geom) []uint64 {
	t.Helper()
	l, err := image.Make(g)
	if err != api.OK {
		t.Fatal(err)
	}
	l, told := deed.All(l, 0, tree.Op{Kind: 1, A: "/a"}, tree.Op{Kind: 1, A: "/a/b"}, tree.Op{Kind: 2, A: "/a/f"}, tree.Op{Kind: 10, A: "/a/f", Data: []byte(strings.Repeat("x", 100))},
		tree.Op{Kind: 3, A: "/a/f", B: "/a/b/g"}, tree.Op{Kind: 7, A: "/l", Data: []byte("a/f")}, tree.Op{Kind: 2, A: "/h"}, tree.Op{Kind: 1, A: "/a/b/c"})
	for _, r := range told {
		if r.Err != api.OK {
			t.Fatal(r)
		}
	}
	return l
}

// alike tells whether words are the same, but for those behind the marks in books.
func alike(g geom.Geom, a, b []uint64) bool {
	a, b = slices.Clone(a), slices.Clone(b)
	for client := range g.Clients {
		from, n := geom.Books(g, client)
		clear(a[8*from+1 : 8*(from+n)])
		clear(b[8*from+1 : 8*(from+n)])
	}
	return slices.Equal(a, b)
}

func goal(t *testing.T, l []uint64) []uint64 {
	t.Helper()
	was := slices.Clone(l)
	out, err := mend.Goal(l)
	if err != api.OK {
		t.Fatal(err)
	}
	done, _ := disk.Recover(l)
	if want, _ := cure.Of(done); !slices.Equal(out, want) || !check.Fine(out) || !slices.Equal(l, was) {
		t.Fatal("Goal is other, or not fine, or writes")
	}
	return out
}

// mended: a memory of these words comes to their Goal, all sure.
func mended(t *testing.T, what string, g geom.Geom, l []uint64) int {
	t.Helper()
	want := goal(t, l)
	m, err := pmem.From(l...)
	if err != api.OK {
		t.Fatal(err)
	}
	n, err := mend.Run(m)
	if err != api.OK || !alike(g, m.Words(), want) || (n == 0) != alike(g, l, want) {
		t.Errorf("%s: %d, %v", what, n, err)
	}
	if m.Crash(); !alike(g, m.Words(), want) {
		t.Errorf("%s: not sure", what)
	}
	m.On()
	a, b, c := m.Count()
	if n, err := mend.Run(m); n != 0 || err != api.OK {
		t.Errorf("%s, again: %d, %v", what, n, err)
	}
	if x, y, z := m.Count(); x != a || y != b || z != c {
		t.Errorf("%s, again: it stores, flushes or fences", what)
	}
	return n
}

// falls mends with falls, the first one at any of the first calls and at some of the later ones, however much stays.
func falls(t *testing.T, what string, g geom.Geom, l []uint64, most int) {
	t.Helper()
	want := goal(t, l)
	for _, keep := range [][]int{nil, slices.Repeat([]int{99}, 999), slices.Repeat([]int{1}, 999), slices.Repeat([]int{0, 5, 2}, 333)} {
		for first := 1; first <= most; first += 1 + first/12 {
			m, _ := pmem.From(l...)
			m.Fuse(first, keep...)
			_, err := mend.Run(m)
			if err == api.OK {
				break
			}
			for again := first%7*3 + 5; err == api.EOFF; again += 25 { // falls in the midst of what goes on, too
				m.On()
				m.Fuse(again, keep...)
				_, err = mend.Run(m)
			}
			if err != api.OK || !alike(g, m.Words(), want) {
				t.Fatalf("%s: a fall at call %d: %v, other words than Goal's: %v", what, first, err, check.Run(m.Words()))
			}
		}
	}
}

func TestRefused(t *testing.T) {
	if n, err := mend.Run(nil); n != 0 || err != api.EARG {
		t.Errorf("Run of none: %v", err)
	}
	m, _ := pmem.From(whole(t, plain)...)
	m.Crash()
	if n, err := mend.Run(m); n != 0 || err != api.EOFF {
		t.Errorf("Run without power: %v", err)
	}
	none := whole(t, plain)
	none[0], none[8*63] = 0, 0
	for i, bad := range [][]uint64{make([]uint64, 8), make([]uint64, 512), none} {
		m, _ := pmem.From(bad...)
		n, err := mend.Run(m)
		a, b, c := m.Count()
		if n != 0 || err != api.EFORM || a+b+c != 0 {
			t.Errorf("Run of words %d: %v", i, err)
		}
		if l, err := mend.Goal(bad); err != api.EFORM || len(l) != 0 {
			t.Errorf("Goal of words %d: %v", i, err)
		}
	}
	for i, bad := range [][]uint64{nil, none[:511], make([]uint64, 9000)} {
		if l, err := mend.Goal(bad); err != api.EFORM || len(l) != 0 {
			t.Errorf("Goal of odd words %d: %v", i, err)
		}
	}
}

func TestFine(t *testing.T) {
	for _, g := range []geom.Geom{plain, wide} {
		l := whole(t, g)
		if !slices.Equal(goal(t, l), l) {
			t.Error("Goal of a fine one is other")
		}
		m, _ := pmem.From(l...)
		m.Store(500, l[500]) // a word that is not sure, but is as it should be
		if n, err := mend.Run(m); n != 0 || err != api.OK {
			t.Errorf("Run of a fine one: %d, %v", n, err)
		}
		if a, b, c := m.Count(); a != 1 || b+c != 0 {
			t.Error("Run of a fine one stores, flushes or fences")
		}
	}
}

func TestSure(t *testing.T) {
	l := whole(t, plain)
	m, _ := pmem.From(l...)
	m.Store(8*62, 77) // free data, not sure
	m.Store(6, 1)
	if n, err := mend.Run(m); n != 1 || err != api.OK {
		t.Errorf("Run: %d, %v", n, err)
	}
	m.Crash()
	if w := m.Words(); w[8*62] != 77 || w[6] != 0 {
		t.Error("what was stored ahead is not sure")
	}
}

func TestMountIsEnough(t *testing.T) {
	// T3: what files alone have made is mended by mounting it.
	for calls := 1; ; calls++ {
		m, _ := pmem.From(whole(t, plain)...)
		d, _ := disk.Mount(m)
		m.Fuse(calls, 1, 9, 0, 3)
		r := d.Do(0, tree.Op{Kind: 10, A: "/l", At: 50, Data: []byte(strings.Repeat("z", 100))})
		if r.Err == api.OK {
			return
		}
		m.On()
		l := m.Words()
		want, _ := disk.Recover(l)
		if !slices.Equal(goal(t, l), want) {
			t.Errorf("a fall at call %d: Goal is other than a mount", calls)
		}
		mended(t, "a fallen one", plain, l)
	}
}

// damages by name; each on a fine image of wide.
var damages = map[string]func(l []uint64){
	"a free word":   func(l []uint64) { l[8*126] = 9 },
	"no first head": func(l []uint64) { put(l, 0, []uint64{1, 2, 3, 4, 5, 6, 7, 8}) },
	"no back head":  func(l []uint64) { put(l, 127, make([]uint64, 8)) },
	"phases":        func(l []uint64) { l[6], l[8*127+6] = 3, 4 },
	"a mark":        func(l []uint64) { l[8*17] = 9 },
	"a record": func(l []uint64) {
		record(l, 17, redo.Rec{Num: 4, L: []redo.Write{{At: 8 * 35, V: 0}, {At: 8*126 + 3, V: 5}}})
	},
	"two records": func(l []uint64) {
		record(l, 1, redo.Rec{Num: 4, L: []redo.Write{{At: 8 * 126, V: 1}}})
		record(l, 17, redo.Rec{Num: 3, L: []redo.Write{{At: 8 * 126, V: 2}, {At: 8 * 36, V: 1}}})
	},
	"no Root":      func(l []uint64) { l[8*34] = 0 },
	"no Lost":      func(l []uint64) { l[8*35+7]++ },
	"no directory": func(l []uint64) { l[8*36]++ },
	"shared blocks": func(l []uint64) {
		put(l, 44, node.Put(thing(1, 1, 64*40, run(58, 40))))
		put(l, 45, node.Put(thing(2, 1, 20, run(90, 20))))
	},
	"bits":           func(l []uint64) { l[8*33], l[8*33+1], l[8*34-1] = 5, 6, 7 },
	"a doubled name": doubled,
	"a doubled Lost": lostDoubled,
	"a circle":       circle,
	"too many names": names,
	"much of all": func(l []uint64) {
		names(l)
		l[0], l[8], l[8*33+1] = 3, 1, 99
		put(l, 45, node.Put(thing(1, 1, 64, run(58, 1))))
	},
	"a back head alone": func(l []uint64) { put(l, 0, slices.Repeat([]uint64{7}, 8)); doubled(l) },
}

func record(l []uint64, book int, r redo.Rec) {
	l[8*book] = r.Num
	copy(l[8*book+8:], redo.Put(r))
}

// doubled makes a directory in which many names stand twice, the first one of a node that is none: all of them go, and with them the second ones.
func doubled(l []uint64) {
	put(l, 43, node.Put(thing(2, 1, 40, run(100, 20), run(80, 20))))
	for i := range 20 {
		setSlot(l, 100+i, 12, "n"+strconv.Itoa(i)) // node 12 is none
		setSlot(l, 80+i, 5, "n"+strconv.Itoa(i))
	}
}

// lostDoubled spoils Lost, and makes slots in it with the names of others behind them: those go, and with them the second ones, that would be well without the first.
func lostDoubled(l []uint64) {
	l[8*35]++
	for n := 5; n <= 7; n++ {
		put(l, 33+n, slices.Repeat([]uint64{7}, 8)) // more words, so that one record does not hold all
	}
	put(l, 34, node.Put(thing(2, 1, 8, run(100, 8))))
	for n := 8; n <= 12; n++ {
		put(l, 33+n, node.Put(thing(1, 1, 0)))
		setSlot(l, 92+n, n, "x"+strconv.Itoa(n)) // reached by Root, too: Lost does not get it back
		setSlot(l, 46+n-8, n, "#"+strconv.Itoa(n))
		setSlot(l, 45+n, n, "#"+strconv.Itoa(n))
	}
}

// circle makes directories that only have each other, and hold more.
func circle(l []uint64) {
	put(l, 41, node.Put(thing(2, 1, 2, run(100, 2))))
	put(l, 42, node.Put(thing(2, 1, 2, run(102, 2))))
	put(l, 43, node.Put(thing(2, 1, 1, run(104, 1))))
	put(l, 44, node.Put(thing(1, 3, 64, run(105, 1))))
	setSlot(l, 100, 9, "nine")
	setSlot(l, 101, 11, "file")
	setSlot(l, 102, 10, "ten")
	setSlot(l, 103, 0, "")
	setSlot(l, 104, 8, "eight")
}

// names makes one node with many slots, far more than one record holds words of, most of them wrong.
func names(l []uint64) {
	put(l, 43, node.Put(thing(2, 1, 50, run(70, 50))))
	for i := range 50 {
		setSlot(l, 70+i, []int{5, 2, 11, 5, 4}[i%5], "a"+strconv.Itoa(i/2))
	}
}

func TestDamages(t *testing.T) {
	for what, damage := range damages {
		l := whole(t, wide)
		damage(l)
		n := mended(t, what, wide, l)
		falls(t, what, wide, l, 700)
		if what == "phases" && n != 2 || what == "a mark" && n != 1 {
			t.Errorf("%s: %d words were written", what, n)
		}
	}
}

func TestManyRecords(t *testing.T) {
	l := whole(t, wide)
	names(l)
	m, _ := pmem.From(l...)
	if n, err := mend.Run(m); n < 150 || err != api.OK {
		t.Errorf("%d words, %v: too few for a test of many records", n, err)
	}
}

func TestMaxLinks(t *testing.T) {
	g := geom.Geom{Blocks: 400, Nodes: 10, Clients: 1, Book: 16} // bits 17, nodes 18 to 27, lost 28 to 37, data 38 to 398
	l, _ := image.Make(g)
	put(l, 18, node.Put(thing(2, 1, 251, run(100, 251))))
	put(l, 20, node.Put(thing(1, 1, 0)))
	for i := range 251 {
		setSlot(l, 100+i, 3, strconv.Itoa(i))
	}
	setSlot(l, 30, 3, "#3")
	mended(t, "252 names", g, l)
	falls(t, "252 names", g, l, 20)
}

// TestOddFirst: a first block that lacks little of a head, of another geometry than the back one.
func TestOddFirst(t *testing.T) {
	for _, n := range []int{9, 10, 12} {
		for _, word := range []int{0, 1, 5, 7} {
			l := whole(t, wide)
			put(l, 0, head.Put(head.Head{Geom: geom.Geom{Blocks: 128, Nodes: n, Clients: 1, Book: 20}, Phase: 5}))
			l[word]++
			falls(t, "an odd first block", wide, l, 30)
		}
	}
	// Sealed for what it comes to be halfway, if its words are written in order.
	l := whole(t, wide)
	put(l, 0, head.Put(head.Head{Geom: geom.Geom{Blocks: 128, Nodes: 12, Clients: 1, Book: 20}}))
	l[2] = 11
	falls(t, "a first block that is nearly sealed", wide, l, 30)
}

// havoc changes some blocks, so that they still look like nodes, slots and words.
func havoc(r *rand.Rand, l []uint64) {
	for range 1 + r.Intn(12) {
		switch r.Intn(10) {
		case 0:
			l[r.Intn(len(l))] ^= 1 << r.Intn(64)
		case 1:
			l[8*33+r.Intn(2)] ^= 1 << r.Intn(64)
		case 2, 3, 4:
			setSlot(l, 46+r.Intn(81), r.Intn(13), []string{"a", "b", "f", "d", "l", "#3", "#4", "#7", "lost+found"}[r.Intn(9)])
		case 5:
			n := 3 + r.Intn(10)
			setSlot(l, 45+n, n, "#"+strconv.Itoa(n))
		case 6:
			l[[]int{0, 1, 6, 7, 8, 8 * 17, 8 * 127, 8*127 + 6}[r.Intn(8)]] = uint64(r.Intn(3))
		case 7:
			w := []redo.Write{{At: r.Intn(1024), V: uint64(r.Intn(300))}, {At: r.Intn(1024), V: uint64(r.Intn(300))}}
			record(l, []int{1, 17}[r.Intn(2)], redo.Rec{Num: uint64(1 + r.Intn(3)), L: w})
		default:
			size := r.Intn(8)
			v := thing(1+r.Intn(3), 1+r.Intn(2), size)
			if size > 0 {
				v.Runs = []node.Run{run(58+r.Intn(69-size), size)}
			}
			if v.Type != 2 {
				v.Size = 64 * size
			} else if v.Links = 1; r.Intn(20) == 0 {
				v.Links = 2
			}
			put(l, 34+r.Intn(12), node.Put(v))
		}
	}
}

func TestAnything(t *testing.T) {
	r := rand.New(rand.NewSource(1))
	for i := range 150 {
		l := whole(t, wide)
		if i%3 == 0 {
			doubled(l)
		}
		havoc(r, l)
		if _, first, back := head.Find(l); !first && !back {
			continue
		}
		mended(t, "any words", wide, l)
		for range 4 {
			anyFalls(t, r, l)
		}
	}
}

// anyFalls mends with falls at any moments, keeping any stores.
func anyFalls(t *testing.T, r *rand.Rand, l []uint64) {
	t.Helper()
	want := goal(t, l)
	m, _ := pmem.From(l...)
	var log []int
	for {
		calls := 1 + r.Intn(150+10*len(log))
		log = append(log, calls)
		var keep []int
		for range 200 {
			keep = append(keep, r.Intn(9))
		}
		m.Fuse(calls, keep...)
		if _, err := mend.Run(m); err == api.OK {
			break
		}
		m.On()
	}
	if !alike(wide, m.Words(), want) {
		t.Fatalf("falls at %d: other words than Goal's", log)
	}
}
