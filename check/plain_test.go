package check_test

import (
	"math/rand"
	"slices"
	"strconv"
	"testing"

	"lintel/bits"
	"lintel/check"
	"lintel/geom"
	"lintel/head"
	"lintel/node"
	"lintel/runs"
	"lintel/slot"
)

// plainly finds what the document's table says, row by row, with no thought of speed: what Run is held against.
func plainly(l []uint64) []find {
	h, first, back := head.Find(l)
	if len(l)%8 != 0 || len(l)/8 < 64 || len(l)/8 > 1024 {
		return []find{f(0, 1, 0, 0)}
	}
	if !first && !back {
		return []find{f(0, 2, 0, 0)}
	}
	p := plainLook{l: l, g: h.Geom}
	p.heads(first, back)
	for client := range p.g.Clients {
		at, _ := geom.Books(p.g, client)
		p.tell(l[8*at] != 0, f(1, 1, client, 0))
	}
	for n := 1; n <= p.g.Nodes; n++ {
		if kind := p.pass2(n); kind != 0 {
			p.tell(true, f(2, kind, n, 0))
		}
	}
	p.pass3()
	p.pass4()
	p.pass5and6()
	p.pass7()
	slices.SortFunc(p.out, func(a, b find) int {
		return slices.Compare([]int{a.Pass, a.At, a.More, a.Kind}, []int{b.Pass, b.At, b.More, b.Kind})
	})
	return p.out
}

type plainLook struct {
	l   []uint64
	g   geom.Geom
	out []find
}

func (p *plainLook) block(at int) []uint64 { return p.l[8*at : 8*at+8] }

func (p *plainLook) tell(wrong bool, x find) {
	if wrong {
		p.out = append(p.out, x)
	}
}

func (p *plainLook) heads(first, back bool) {
	last := p.g.Blocks - 1
	a, _ := head.Get(p.block(0)...)
	b, _ := head.Get(p.block(last)...)
	p.tell(!first, f(0, 3, 0, 0))
	p.tell(first && a.Phase != 0, f(0, 5, 0, 0))
	other := !back || first && a.Geom != b.Geom
	p.tell(other, f(0, 4, last, 0))
	p.tell(!other && b.Phase != 0, f(0, 5, last, 0))
}

func (p *plainLook) node(n int) node.Node {
	v, _ := node.Get(p.block(geom.Node(p.g, n))...)
	return v
}

func (p *plainLook) pass2(n int) int {
	v, ok := node.Get(p.block(geom.Node(p.g, n))...)
	from, size := geom.Lost(p.g)
	lost := v.Type == 2 && slices.Equal(v.Runs, []node.Run{{From: from, Len: size}})
	for kind, wrong := range []bool{false, !ok, !node.Good(p.g, v), n == 1 && v.Type != 2, n == 2 && !(lost && v.Size == p.g.Nodes), n != 2 && lost, v.Type == 2 && v.Links != 1} {
		if wrong {
			return kind
		}
	}
	return 0
}

func (p *plainLook) sound(n int) bool {
	return n >= 1 && n <= p.g.Nodes && p.pass2(n) == 0 && p.node(n).Type != 0
}

func (p *plainLook) blocks(n int) []int {
	var l []int
	v := p.node(n)
	for i := range runs.Total(v.Runs) {
		at, _ := runs.At(v.Runs, i)
		l = append(l, at)
	}
	return l
}

func (p *plainLook) shared(a, b int) bool {
	return slices.ContainsFunc(p.blocks(a), func(at int) bool { return slices.Contains(p.blocks(b), at) })
}

func (p *plainLook) pass3() {
	for n := range p.g.Nodes + 1 {
		for m := range n {
			if p.sound(n) && p.sound(m) && p.shared(n, m) {
				p.tell(true, f(3, 1, n, m))
				break
			}
		}
	}
}

// slots tells a sound Dir's.
func (p *plainLook) slots(n int) (l []slot.Slot, none []bool) {
	if !p.sound(n) || p.node(n).Type != 2 {
		return nil, nil
	}
	for _, at := range p.blocks(n) {
		s, ok := slot.Get(p.block(at)...)
		l, none = append(l, s), append(none, !ok)
	}
	return l, none
}

// early tells 4, 1 to 4, 5 of a slot; well: it is neither free nor told.
func (p *plainLook) early(dir, place int) (kind int, well bool) {
	l, none := p.slots(dir)
	s := l[place]
	if none[place] {
		return 1, false
	}
	if s.Node == 0 {
		return 0, false
	}
	ahead := false
	for i := range place {
		ahead = ahead || !none[i] && l[i].Node != 0 && l[i].Name == s.Name
	}
	for i, wrong := range []bool{!p.sound(s.Node), s.Node < 3, ahead || dir == 1 && s.Name == "lost+found", dir == 2 && (s.Node != place+1 || s.Name != "#"+strconv.Itoa(s.Node))} {
		if wrong {
			return i + 2, false
		}
	}
	return 0, true
}

func (p *plainLook) kind(dir, place int) (int, bool) {
	kind, well := p.early(dir, place)
	if !well {
		return kind, false
	}
	l, _ := p.slots(dir)
	if p.node(l[place].Node).Type != 2 {
		return 0, true
	}
	for other := 1; other <= dir; other++ {
		m, _ := p.slots(other)
		for i, s := range m {
			if other == dir && i >= place {
				break
			}
			if _, well := p.early(other, i); well && s.Node == l[place].Node {
				return 6, false
			}
		}
	}
	return 0, true
}

func (p *plainLook) pass4() {
	for dir := range p.g.Nodes + 1 {
		l, _ := p.slots(dir)
		for place := range l {
			if kind, _ := p.kind(dir, place); kind != 0 {
				p.tell(true, f(4, kind, dir, place))
			}
		}
	}
}

func (p *plainLook) pass5and6() {
	reached := []int{1, 2}
	count := map[int]int{}
	type edge struct{ a, b int }
	var edges []edge
	for dir := range p.g.Nodes + 1 {
		l, _ := p.slots(dir)
		for place, s := range l {
			if _, well := p.kind(dir, place); well {
				edges = append(edges, edge{dir, s.Node})
				count[s.Node]++
			}
		}
	}
	for range p.g.Nodes {
		for _, e := range edges {
			if slices.Contains(reached, e.a) && !slices.Contains(reached, e.b) {
				reached = append(reached, e.b)
			}
		}
	}
	for n := range p.g.Nodes + 1 {
		if p.sound(n) {
			p.tell(!slices.Contains(reached, n), f(5, 1, n, 0))
			p.tell(p.node(n).Type != 2 && p.node(n).Links != count[n], f(6, 1, n, count[n]))
		}
	}
}

func (p *plainLook) pass7() {
	from, n := geom.Bits(p.g)
	row := bits.Bits{L: p.l[8*from : 8*(from+n)]}
	var taken []int
	for n := range p.g.Nodes + 1 {
		if p.sound(n) {
			taken = append(taken, p.blocks(n)...)
		}
	}
	data, size := geom.Data(p.g)
	for at := range 512 * n {
		if at >= p.g.Blocks {
			p.tell(bits.Has(row, at), f(7, 2, at, 0))
			continue
		}
		want := at < data || at >= data+size || slices.Contains(taken, at)
		if bits.Has(row, at) != want {
			more := map[bool]int{true: 1}[want]
			p.tell(true, f(7, 1, at, more))
		}
	}
}

// havoc changes some blocks of a fine image, so that they still look like nodes, slots and words.
func havoc(r *rand.Rand, l []uint64) {
	for range 1 + r.Intn(6) {
		switch r.Intn(7) {
		case 0:
			l[r.Intn(len(l))] ^= 1 << r.Intn(64)
		case 1:
			l[8*21] ^= 1 << r.Intn(64)
		case 2, 3:
			setSlot(l, 32+r.Intn(31), r.Intn(11), []string{"a", "b", "f", "d", "l", "#3", "#4", "#7", "lost+found"}[r.Intn(9)])
		case 4:
			n := 3 + r.Intn(8)
			setSlot(l, 31+n, n, "#"+strconv.Itoa(n))
		default:
			size := r.Intn(4)
			v := thing(1+r.Intn(3), 1+r.Intn(2), size)
			if size > 0 {
				v.Runs = []node.Run{run(42+r.Intn(21-size), size)}
			}
			if v.Type != 2 {
				v.Size = 64 * size
			} else if v.Links = 1; r.Intn(20) == 0 {
				v.Links = 2
			}
			setNode(l, 1+r.Intn(10), v)
		}
	}
}

func TestAgainstThePlain(t *testing.T) {
	r := rand.New(rand.NewSource(1))
	kinds := map[[2]int]int{}
	for i := range 1500 {
		l := whole(t)
		havoc(r, l)
		got, want := check.Run(l), plainly(l)
		if !slices.Equal(got, want) {
			t.Fatalf("image %d: %v, not %v", i, got, want)
		}
		for _, x := range got {
			kinds[[2]int{x.Pass, x.Kind}]++
		}
	}
	for _, k := range [][2]int{{2, 1}, {2, 6}, {3, 1}, {4, 1}, {4, 2}, {4, 3}, {4, 4}, {4, 5}, {4, 6}, {5, 1}, {6, 1}, {7, 1}, {7, 2}} {
		if kinds[k] == 0 {
			t.Errorf("no finding of pass and kind %v", k)
		}
	}
}
