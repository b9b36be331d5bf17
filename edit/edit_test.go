package edit_test

import (
	"bytes"
	"math"
	mbits "math/bits"
	"slices"
	"strconv"
	"strings"
	"testing"

	"lintel/api"
	"lintel/bits"
	"lintel/edit"
	"lintel/geom"
	"lintel/image"
	"lintel/node"
	"lintel/redo"
	"lintel/runs"
	"lintel/slot"
)

// In two: books 1, 17, bits 33, nodes 34 to 43, lost 44 to 53, data 54 to 78.
var two = geom.Geom{Blocks: 80, Nodes: 10, Clients: 2, Book: 16}

func run(from, n int) node.Run { return node.Run{From: from, Len: n} }

func thing(typ, size int, l ...node.Run) node.Node {
	return node.Node{Type: typ, Links: 1, Size: size, Runs: l}
}

func put(l []uint64, block int, words []uint64) { copy(l[8*block:8*block+8], words) }

// some has a File 3 of 100 bytes at 54 and 56, a Link 4 at 57, a Dir 5 of two slots at 58, and Root of one at 60; all bytes of free blocks are 9.
func some(t *testing.T) []uint64 {
	t.Helper()
	l, err := image.Make(two)
	if err != api.OK {
		t.Fatal(err)
	}
	for at := 54 * 8; at < 79*8; at++ {
		l[at] = 0x0909090909090909
	}
	put(l, 34, node.Put(thing(2, 1, run(60, 1))))
	put(l, 36, node.Put(thing(1, 100, run(56, 1), run(54, 1))))
	put(l, 37, node.Put(thing(3, 3, run(57, 1))))
	put(l, 38, node.Put(thing(2, 2, run(58, 2))))
	put(l, 58, slot.Put(slot.Slot{Node: 4, Name: "l"}))
	put(l, 59, slot.Put(slot.Slot{}))
	put(l, 60, slot.Put(slot.Slot{Node: 5, Name: "d"}))
	mark(l, true, 54, 56, 57, 58, 59, 60)
	return l
}

func mark(l []uint64, yes bool, at ...int) {
	put(l, 33, bits.Set(bits.Bits{L: l[8*33 : 8*34]}, yes, at...).L)
}

func open(t *testing.T, l []uint64) *edit.Edit {
	t.Helper()
	e, err := edit.New(l)
	if err != api.OK {
		t.Fatal(err)
	}
	return e
}

// refused: the call answers this, and changes nothing.
func refused(t *testing.T, what string, e *edit.Edit, want api.Errno, call func() api.Errno) {
	t.Helper()
	was := slices.Clone(e.Words)
	if err := call(); err != want {
		t.Errorf("%s: %v, not %v", what, err, want)
	}
	if !slices.Equal(e.Words, was) {
		t.Errorf("%s: changed, though refused", what)
	}
}

// well: Writes makes just the words of the Edit, fresh ones in blocks that were free, whole; done ones elsewhere; both rising.
func well(t *testing.T, what string, l []uint64, e *edit.Edit) (fresh, done []redo.Write) {
	t.Helper()
	fresh, done = e.Writes()
	if !slices.Equal(redo.Do(redo.Do(l, fresh...), done...), e.Words) {
		t.Errorf("%s: Writes does not make the words", what)
	}
	rising := func(a, b redo.Write) int { return a.At - b.At }
	if !slices.IsSortedFunc(fresh, rising) || !slices.IsSortedFunc(done, rising) {
		t.Errorf("%s: Writes is not rising", what)
	}
	before, _ := image.Open(l)
	isFresh := map[int]int{}
	for _, w := range fresh {
		isFresh[w.At/8]++
		if bits.Has(before.Bits(), w.At/8) || !bits.Has(e.Bits(), w.At/8) {
			t.Errorf("%s: block %d is not fresh", what, w.At/8)
		}
	}
	for block := range 80 {
		want := 0
		if !bits.Has(before.Bits(), block) && bits.Has(e.Bits(), block) {
			want = 8
		}
		if isFresh[block] != want {
			t.Errorf("%s: %d fresh words of block %d", what, isFresh[block], block)
		}
	}
	for _, w := range done {
		if isFresh[w.At/8] > 0 || l[w.At] == w.V {
			t.Errorf("%s: word %d is among the done ones", what, w.At)
		}
	}
	return fresh, done
}

// taken tells which of the data are.
func taken(e *edit.Edit) []int {
	var l []int
	for at := 54; at < 79; at++ {
		if bits.Has(e.Bits(), at) {
			l = append(l, at)
		}
	}
	return l
}

func blocks(l []node.Run) []int {
	var all []int
	for i := range runs.Total(l) {
		at, _ := runs.At(l, i)
		all = append(all, at)
	}
	slices.Sort(all)
	return all
}

func TestNew(t *testing.T) {
	l := some(t)
	e := open(t, l)
	if e.Geom != two || e.Blocks != 80 || !slices.Equal(e.Words, l) {
		t.Error("New: other words")
	}
	if fresh, done := e.Writes(); len(fresh)+len(done) != 0 {
		t.Errorf("New, Writes: %d, %d", len(fresh), len(done))
	}
	was := slices.Clone(l)
	e.Clear(3)
	if !slices.Equal(l, was) {
		t.Error("New keeps what it is given")
	}
	l[8*60], e = 7, open(t, was)
	for i, bad := range [][]uint64{nil, make([]uint64, 640), was[:639], was[8:]} {
		if e, err := edit.New(bad); e != nil || err != api.EFORM {
			t.Errorf("New of words %d: %v", i, err)
		}
	}
}

func TestSetNode(t *testing.T) {
	l := some(t)
	e := open(t, l)
	for _, n := range []int{0, -1, 11, math.MaxInt, math.MinInt} {
		refused(t, "SetNode of none", e, api.EARG, func() api.Errno { return e.SetNode(n, node.Node{}) })
	}
	for _, x := range []node.Node{{Type: 1}, thing(4, 0), thing(1, 64), thing(1, 64, run(53, 1)), thing(1, 64, run(79, 1)), thing(1, 64, run(54, 2)), thing(3, 0)} {
		refused(t, "SetNode of what is not Good", e, api.EARG, func() api.Errno { return e.SetNode(3, x) })
	}
	x := thing(2, 3, run(56, 1), run(70, 2))
	if err := e.SetNode(3, x); err != api.OK {
		t.Fatal(err)
	}
	if v, ok := e.Node(3); !ok || !slices.Equal(node.Put(v), node.Put(x)) || !slices.Equal(taken(e), []int{56, 57, 58, 59, 60, 70, 71}) {
		t.Errorf("SetNode: %v, %v", v, taken(e))
	}
	fresh, _ := well(t, "SetNode", l, e)
	if len(fresh) != 16 || fresh[0].At != 70*8 {
		t.Errorf("SetNode: fresh %v", fresh)
	}
	e.SetNode(10, thing(1, 64, run(56, 1))) // another's block
	e.SetNode(3, node.Node{})
	if !slices.Equal(taken(e), []int{57, 58, 59, 60}) { // free, whatever 10 has
		t.Errorf("SetNode of shared blocks: %v", taken(e))
	}
}

func TestSetNodeOdd(t *testing.T) {
	l := some(t)
	put(l, 36, node.Put(node.Node{Type: 1, Links: 1, Size: 1, Runs: []node.Run{{From: 57, Len: 2}}})) // not Good
	e := open(t, l)
	if err := e.SetNode(3, thing(1, 64, run(61, 1))); err != api.OK || !slices.Equal(taken(e), []int{54, 56, 57, 58, 59, 60, 61}) {
		t.Errorf("runs of what is not Good: %v, %v", err, taken(e))
	}
	if err := e.SetNode(2, node.Node{}); err != api.OK || bits.Has(e.Bits(), 44) || bits.Has(e.Bits(), 53) || !bits.Has(e.Bits(), 43) {
		t.Errorf("SetNode of Lost: %v", err)
	}
	fresh, _ := well(t, "SetNode of Lost", l, e)
	if len(fresh) != 8 {
		t.Errorf("SetNode of Lost: %d fresh", len(fresh))
	}
}

func TestNodeNotGood(t *testing.T) {
	l := some(t)
	put(l, 36, node.Put(thing(1, 65, run(54, 1))))
	put(l, 37, node.Put(thing(3, 0, run(57, 1))))
	put(l, 38, node.Put(thing(2, 3, run(58, 2))))
	e := open(t, l)
	for n := 3; n <= 5; n++ {
		refused(t, "Fill of what is not Good", e, api.EARG, func() api.Errno { return e.Fill(0, n, []byte("a")) })
		refused(t, "Grow of what is not Good", e, api.EARG, func() api.Errno { return e.Grow(0, n, 9) })
		refused(t, "SetSlot of what is not Good", e, api.EARG, func() api.Errno { return e.SetSlot(n, 0, slot.Slot{}) })
	}
	for n := 3; n <= 5; n++ { // it has no Runs that count
		if err := e.Clear(n); err != api.OK || !slices.Equal(taken(e), []int{54, 56, 57, 58, 59, 60}) {
			t.Errorf("Clear of what is not Good: %v, %v", err, taken(e))
		}
	}
}

func TestSetSlot(t *testing.T) {
	l := some(t)
	e := open(t, l)
	for what, c := range map[string]struct {
		dir, place int
		s          slot.Slot
	}{
		"a File":       {3, 0, slot.Slot{}},
		"a Link":       {4, 0, slot.Slot{}},
		"a free one":   {9, 0, slot.Slot{}},
		"none":         {11, 0, slot.Slot{}},
		"node 0":       {0, 0, slot.Slot{}},
		"node -1":      {-1, 0, slot.Slot{}},
		"place -1":     {5, -1, slot.Slot{}},
		"place 2":      {5, 2, slot.Slot{}},
		"a far place":  {5, math.MaxInt, slot.Slot{}},
		"no name":      {5, 0, slot.Slot{Node: 3}},
		"a dot":        {5, 0, slot.Slot{Node: 3, Name: "."}},
		"a great node": {5, 0, slot.Slot{Node: 65, Name: "a"}},
	} {
		refused(t, "SetSlot: "+what, e, api.EARG, func() api.Errno { return e.SetSlot(c.dir, c.place, c.s) })
	}
	if e.SetSlot(5, 1, slot.Slot{Node: 3, Name: "f"}) != api.OK || e.SetSlot(5, 0, slot.Slot{}) != api.OK || e.SetSlot(2, 9, slot.Slot{Node: 64, Name: "x"}) != api.OK {
		t.Error("SetSlot")
	}
	if got := e.Slots(5); !slices.Equal(got, []slot.Slot{{}, {Node: 3, Name: "f"}}) || e.Slots(2)[9].Node != 64 {
		t.Errorf("SetSlot: %v", got)
	}
	if fresh, done := well(t, "SetSlot", l, e); len(fresh) != 0 || len(done) == 0 {
		t.Errorf("SetSlot: %d fresh, %d done", len(fresh), len(done))
	}
}

func TestFill(t *testing.T) {
	for _, n := range []int{0, 1, 64, 65, 800, 1216} {
		l := some(t)
		e := open(t, l)
		data := bytes.Repeat([]byte("x"), n)
		if err := e.Fill(1, 3, data); err != api.OK {
			t.Fatalf("Fill of %d: %v", n, err)
		}
		v, _ := e.Node(3)
		if !bytes.Equal(e.Content(3), data) || v.Type != 1 || v.Links != 1 || v.Size != n {
			t.Errorf("Fill of %d: %v", n, v)
		}
		got := blocks(v.Runs)
		want := append([]int{57, 58, 59, 60}, got...)
		slices.Sort(want)
		if slices.Contains(got, 54) || slices.Contains(got, 56) || !slices.Equal(taken(e), want) {
			t.Errorf("Fill of %d: in %v, taken %v", n, got, taken(e))
		}
		fresh, _ := well(t, "Fill", l, e)
		if len(fresh) != 8*len(got) {
			t.Errorf("Fill of %d: %d fresh words", n, len(fresh))
		}
		if n == 65 && e.Words[got[1]*8] != uint64('x') || n == 65 && e.Words[got[1]*8+7] != 0 {
			t.Errorf("Fill of %d: no noughts behind", n)
		}
	}
}

func TestFillLink(t *testing.T) {
	l := some(t)
	e := open(t, l)
	if err := e.Fill(0, 4, []byte("another way")); err != api.OK || string(e.Content(4)) != "another way" {
		t.Errorf("Fill of a Link: %v", err)
	}
	if v, _ := e.Node(4); v.Type != 3 || bits.Has(e.Bits(), 57) {
		t.Errorf("Fill of a Link: %v", v)
	}
	for _, n := range []int{400, 1} {
		if err := e.Fill(0, 4, bytes.Repeat([]byte("x"), n)); err != api.OK || len(e.Content(4)) != n {
			t.Errorf("Fill of %d: %v", n, err)
		}
	}
	well(t, "Fill of a Link", l, e)
}

func TestFillRefused(t *testing.T) {
	l := some(t)
	e := open(t, l)
	for what, c := range map[string]struct {
		client, n, size int
		want            api.Errno
	}{
		"client -1":      {-1, 3, 1, api.EARG},
		"client 2":       {2, 3, 1, api.EARG},
		"a Dir":          {0, 5, 1, api.EARG},
		"a free one":     {0, 9, 1, api.EARG},
		"none":           {0, 11, 1, api.EARG},
		"node 0":         {0, 0, 1, api.EARG},
		"too long":       {0, 3, 4097, api.EARG},
		"no way":         {0, 4, 0, api.EARG},
		"too long a way": {0, 4, 401, api.EARG},
		"no room":        {0, 3, 1217, api.ENOSPC},
		"much too much":  {0, 3, 4096, api.ENOSPC},
	} {
		refused(t, "Fill: "+what, e, c.want, func() api.Errno { return e.Fill(c.client, c.n, make([]byte, c.size)) })
	}
	for _, at := range []int{62, 64, 66, 68, 70, 71, 72, 73, 74, 75, 76, 77, 78} {
		mark(l, true, at)
	}
	e = open(t, l) // free: 55, 61, 63, 65, 67, 69
	refused(t, "Fill of five runs", e, api.ENOSPC, func() api.Errno { return e.Fill(0, 3, make([]byte, 257)) })
	if err := e.Fill(0, 3, make([]byte, 256)); err != api.OK {
		t.Errorf("Fill of four runs: %v", err)
	}
	l = some(t)
	mark(l, false, 54, 56) // its own blocks look free
	e = open(t, l)
	if err := e.Fill(0, 3, make([]byte, 64)); err != api.OK {
		t.Error(err)
	}
	if v, _ := e.Node(3); slices.Contains(blocks(v.Runs), 54) || slices.Contains(blocks(v.Runs), 56) {
		t.Errorf("Fill takes a block that the node has: %v", v)
	}
}

func TestClear(t *testing.T) {
	l := some(t)
	e := open(t, l)
	for _, n := range []int{0, -1, 11, math.MaxInt} {
		refused(t, "Clear of none", e, api.EARG, func() api.Errno { return e.Clear(n) })
	}
	if e.Clear(3) != api.OK || e.Clear(9) != api.OK || !slices.Equal(taken(e), []int{57, 58, 59, 60}) {
		t.Errorf("Clear: %v", taken(e))
	}
	if !slices.Equal(e.Block(36), make([]uint64, 8)) {
		t.Error("Clear: not free")
	}
	if fresh, _ := well(t, "Clear", l, e); len(fresh) != 0 {
		t.Errorf("Clear: %d fresh", len(fresh))
	}
	put(l, 36, []uint64{1, 2, 3})
	if e = open(t, l); e.Clear(3) != api.OK || !slices.Equal(e.Block(36), make([]uint64, 8)) || !slices.Equal(taken(e), []int{54, 56, 57, 58, 59, 60}) {
		t.Error("Clear of what tells nothing")
	}
}

func TestGrow(t *testing.T) {
	for slots := 2; slots <= 21; slots++ {
		l := some(t)
		e := open(t, l)
		if err := e.Grow(0, 5, slots); err != api.OK {
			t.Fatalf("Grow to %d: %v", slots, err)
		}
		v, ok := e.Node(5)
		got := e.Slots(5)
		if !ok || v.Size != slots || v.Links != 1 || len(got) != slots || got[0].Name != "l" || len(v.Runs) > 4 {
			t.Errorf("Grow to %d: %v", slots, v)
		}
		if slices.ContainsFunc(got[1:], func(s slot.Slot) bool { return s != slot.Slot{} }) || blocks(v.Runs)[0] > 58 {
			t.Errorf("Grow to %d: %v", slots, got)
		}
		want := append([]int{54, 56, 57, 60}, blocks(v.Runs)...)
		slices.Sort(want)
		if !slices.Equal(taken(e), want) {
			t.Errorf("Grow to %d: taken %v", slots, taken(e))
		}
		for place := range slots { // also those that were not free are blocks of noughts, not of nines
			if at, _ := runs.At(v.Runs, place); place > 0 && !slices.Equal(e.Block(at), make([]uint64, 8)) {
				t.Errorf("Grow to %d: place %d is not free", slots, place)
			}
		}
		if fresh, _ := well(t, "Grow", l, e); len(fresh) != 8*(slots-2) {
			t.Errorf("Grow to %d: %d fresh", slots, len(fresh))
		}
	}
}

func TestGrowRefused(t *testing.T) {
	l := some(t)
	e := open(t, l)
	for what, c := range map[string]struct {
		client, dir, slots int
		want               api.Errno
	}{
		"client -1":          {-1, 5, 3, api.EARG},
		"client 2":           {2, 5, 3, api.EARG},
		"client -1, no more": {-1, 5, 2, api.EARG},
		"client 2, no more":  {2, 5, 2, api.EARG},
		"a File":             {0, 3, 9, api.EARG},
		"a free one":         {0, 9, 3, api.EARG},
		"none":               {0, 11, 3, api.EARG},
		"Lost":               {0, 2, 11, api.EARG},
		"Lost as it is":      {0, 2, 10, api.EARG},
		"fewer":              {0, 5, 1, api.EARG},
		"below 0":            {0, 5, -1, api.EARG},
		"behind MaxFile":     {0, 5, 4097, api.EARG},
		"the greatest":       {0, 5, math.MaxInt, api.EARG},
		"up to MaxFile":      {0, 5, 4096, api.ENOSPC},
		"one too many":       {0, 5, 22, api.ENOSPC},
	} {
		refused(t, "Grow: "+what, e, c.want, func() api.Errno { return e.Grow(c.client, c.dir, c.slots) })
	}
	for _, at := range []int{62, 64, 66, 68, 70, 71, 72, 73, 74, 75, 76, 77, 78} {
		mark(l, true, at)
	}
	e = open(t, l) // free: 55, 61, 63, 65, 67, 69
	refused(t, "Grow of five runs", e, api.ENOSPC, func() api.Errno { return e.Grow(0, 5, 6) })
	if err := e.Grow(0, 5, 5); err != api.OK {
		t.Errorf("Grow of four runs: %v", err)
	}
	refused(t, "Grow of four runs", e, api.ENOSPC, func() api.Errno { return e.Grow(0, 5, 6) })
	put(l, 43, node.Put(thing(2, 10, run(44, 10))))
	e = open(t, l)
	refused(t, "Grow of the Lost area", e, api.ENOSPC, func() api.Errno { return e.Grow(0, 10, 11) })
	if err := e.Grow(0, 10, 10); err != api.OK {
		t.Errorf("Grow of the Lost area by none: %v", err)
	}
}

// In small: bits 21, nodes 22 to 37, lost 38 to 53, data 54 to 62.
var small = geom.Geom{Blocks: 64, Nodes: 16, Clients: 1, Book: 20}

// room tells whether any choice of so many free blocks makes at most four runs, with those ahead of them: by trying all.
func room(old []node.Run, free, count int) bool {
	last := old[len(old)-1]
	for set := range 1 << 9 {
		if set&^free != 0 || mbits.OnesCount(uint(set)) != count {
			continue
		}
		begins := set &^ (set << 1)
		if at := last.From + last.Len - 54; at < 9 {
			begins &^= 1 << at // it goes on where the last one ends
		}
		if len(runs.Merge(old))+mbits.OnesCount(uint(begins)) <= 4 {
			return true
		}
	}
	return false
}

// smallDir is an image with a Dir 5 of these blocks, in which the data of free are free, as its bits say.
func smallDir(t *testing.T, old []node.Run, free int) []uint64 {
	t.Helper()
	l, err := image.Make(small)
	if err != api.OK {
		t.Fatal(err)
	}
	for at := 54; at < 63; at++ {
		put(l, at, []uint64{9, 9, 9, 9, 9, 9, 9, 9})
		if free>>(at-54)&1 == 0 {
			l[8*21] |= 1 << at
		}
	}
	put(l, 26, node.Put(thing(2, node.Blocks(thing(2, 0, old...)), old...)))
	for i := range runs.Total(old) {
		at, _ := runs.At(old, i)
		put(l, at, slot.Put(slot.Slot{Node: 6, Name: strconv.Itoa(i)}))
	}
	return l
}

func TestGrowWhereverThereIsRoom(t *testing.T) {
	for _, old := range [][]node.Run{
		{run(54, 1), run(56, 1), run(58, 1), run(60, 1)}, {run(60, 1), run(58, 1), run(56, 1), run(54, 1)}, {run(54, 1), run(55, 1), run(57, 1), run(60, 1)}, {run(57, 1), run(58, 1), run(59, 1), run(60, 1)},
		{run(54, 1), run(57, 1), run(60, 1)}, {run(62, 1), run(58, 1), run(55, 1)}, {run(55, 1), run(57, 1)}, {run(58, 2)}, {run(61, 2)}, {run(54, 1), run(62, 1)}, {run(62, 1), run(54, 1)},
	} {
		for free := range 1 << 9 { // also where its own blocks look free
			for more := 1; more <= mbits.OnesCount(uint(free))+1; more++ {
				growSmall(t, old, free, more)
			}
		}
	}
}

// growSmall: a Dir of these blocks grows just if there is room, and its old slots keep their places.
func growSmall(t *testing.T, old []node.Run, free, more int) {
	t.Helper()
	e := open(t, smallDir(t, old, free))
	had := runs.Total(old)
	for _, at := range blocks(old) {
		free &^= 1 << (at - 54)
	}
	if !room(old, free, more) {
		refused(t, "Grow without room", e, api.ENOSPC, func() api.Errno { return e.Grow(0, 5, had+more) })
		return
	}
	if err := e.Grow(0, 5, had+more); err != api.OK {
		t.Fatalf("Grow of %v by %d, free %b: %v", old, more, free, err)
	}
	v, ok := e.Node(5)
	if !ok || v.Size != had+more || len(v.Runs) > api.MaxRuns {
		t.Fatalf("Grow of %v by %d, free %b: %v", old, more, free, v)
	}
	for i, s := range e.Slots(5) {
		now, _ := runs.At(v.Runs, i)
		was, kept := runs.At(old, i)
		want := slot.Slot{}
		if kept {
			want = slot.Slot{Node: 6, Name: strconv.Itoa(i)}
		}
		if s != want || kept && now != was || !kept && (free>>(now-54)&1 == 0 || e.Words[8*now] != 0) || !bits.Has(e.Bits(), now) {
			t.Fatalf("Grow of %v by %d, free %b: place %d is %v at %d", old, more, free, i, s, now)
		}
	}
	if got := 9 - mbits.OnesCount(uint(e.Words[8*21]>>54&0x1ff)); got != mbits.OnesCount(uint(free))-more {
		t.Fatalf("Grow of %v by %d, free %b: %d are free", old, more, free, got)
	}
}

func TestGrowOfNoRuns(t *testing.T) {
	for free, want := range map[int]api.Errno{0b111000000: api.OK, 0b101010000: api.OK, 0b000000011: api.ENOSPC, 0: api.ENOSPC} {
		l := smallDir(t, nil, free)
		e := open(t, l)
		if err := e.Grow(0, 5, 3); err != want {
			t.Errorf("Grow of no runs, free %b: %v", free, err)
		}
		if v, ok := e.Node(5); want == api.OK && (!ok || v.Size != 3) {
			t.Errorf("Grow of no runs, free %b: %v", free, v)
		}
	}
}

func TestPromoted(t *testing.T) {
	e := open(t, some(t))
	e.Fill(0, 3, []byte(strings.Repeat("abc", 30)))
	x, err := e.Tree()
	if e.Nodes != 10 || e.Book != 16 || e.Image.Geom != two || err == api.OK && x == nil {
		t.Error("promoted fields and calls")
	}
	if string(e.Content(3)) != strings.Repeat("abc", 30) || len(e.Block(3)) != 8 {
		t.Error("the image is not as with all changes done")
	}
}

func TestOwnMemory(t *testing.T) {
	e := open(t, some(t))
	x := thing(1, 64, run(61, 1))
	e.SetNode(3, x)
	x.Runs[0].From = 70
	data := []byte("abc")
	e.Fill(0, 4, data)
	data[0] = 'z'
	if v, _ := e.Node(3); v.Runs[0].From != 61 || string(e.Content(4)) != "abc" {
		t.Error("what was given is kept")
	}
	fresh, _ := e.Writes()
	fresh[0].V = 12345
	if again, _ := e.Writes(); again[0].V == 12345 {
		t.Error("Writes shares its memory")
	}
}
