package runs_test

import (
	"math"
	"slices"
	"testing"

	"lintel/node"
	"lintel/runs"
)

type run = node.Run

const top = 1 << 30

// list tells runs: From and Len, one behind the other.
func list(l ...int) []run {
	var out []run
	for i := 0; i < len(l); i += 2 {
		out = append(out, run{From: l[i], Len: l[i+1]})
	}
	return out
}

// odd runs do not count.
var odd = list(0, 0, 5, 0, 5, -1, -1, 5, top+1, 1, 1, top+1, math.MaxInt, 1, 1, math.MaxInt, math.MinInt, 1, 1, math.MinInt)

// strewn puts odd runs between others.
func strewn(l []run) []run {
	out := slices.Clone(odd)
	for _, r := range l {
		out = append(append(out, r), odd...)
	}
	return out
}

func TestTotal(t *testing.T) {
	for _, c := range []struct {
		l    []run
		want int
	}{{nil, 0}, {list(3, 2), 2}, {list(3, 2, 3, 2, 0, 1), 5}, {list(top, top, 0, 1), top + 1}} {
		if runs.Total(c.l) != c.want || runs.Total(strewn(c.l)) != c.want {
			t.Errorf("Total(%v): %d, %d", c.l, runs.Total(c.l), runs.Total(strewn(c.l)))
		}
	}
}

func TestAt(t *testing.T) {
	l := list(7, 2, 3, 1, top, 3)
	for i, want := range map[int]int{0: 7, 1: 8, 2: 3, 3: top, 5: top + 2} {
		for _, x := range [][]run{l, strewn(l)} {
			if got, ok := runs.At(x, i); got != want || !ok {
				t.Errorf("At(%d): %d, %v", i, got, ok)
			}
		}
	}
	for _, i := range []int{-1, 6, math.MaxInt, math.MinInt} {
		if got, ok := runs.At(strewn(l), i); got != 0 || ok {
			t.Errorf("At(%d): %d, %v", i, got, ok)
		}
	}
	if _, ok := runs.At(odd, 0); ok {
		t.Error("At of none")
	}
}

func TestMerge(t *testing.T) {
	for _, c := range []struct{ l, want []run }{
		{nil, nil}, {list(3, 2), list(3, 2)}, {list(3, 2, 5, 1), list(3, 3)}, {list(5, 1, 3, 2), list(5, 1, 3, 2)},
		{list(3, 2, 5, 1, 6, 4, 11, 1), list(3, 7, 11, 1)}, {list(3, 2, 4, 2), list(3, 2, 4, 2)}, {list(3, 2, 3, 2), list(3, 2, 3, 2)},
		{list(0, top, top, 1), list(0, top+1)},
	} {
		was := slices.Clone(c.l)
		if got := runs.Merge(c.l); !slices.Equal(got, c.want) || !slices.Equal(c.l, was) {
			t.Errorf("Merge(%v): %v", was, got)
		}
		if got := runs.Merge(strewn(c.l)); !slices.Equal(got, c.want) {
			t.Errorf("Merge(%v) among odd ones: %v", was, got)
		}
	}
	if got := runs.Merge(odd); len(got) != 0 {
		t.Errorf("Merge of odd ones: %v", got)
	}
}

func TestAdd(t *testing.T) {
	room := append(make([]run, 0, 9), list(3, 2)...)
	if got := runs.Add(room, list(5, 1)...); !slices.Equal(got, list(3, 3)) {
		t.Errorf("Add: %v", got)
	}
	if got := runs.Add(room, list(9, 1, 10, 1, 0, 0, 11, 2)...); !slices.Equal(got, list(3, 2, 9, 4)) {
		t.Errorf("Add of more: %v", got)
	}
	if spare := room[:2][1]; spare != (run{}) {
		t.Errorf("Add writes behind what it is given: %v", spare)
	}
	if got := runs.Add(nil); len(got) != 0 {
		t.Errorf("Add of none: %v", got)
	}
	if got := runs.Add(list(1, 1, 2, 1)); !slices.Equal(got, list(1, 2)) {
		t.Errorf("Add of none to some: %v", got)
	}
}

// blocks tells all blocks of small runs.
func blocks(l []run) []int {
	var out []int
	for i := range runs.Total(l) {
		at, _ := runs.At(l, i)
		out = append(out, at)
	}
	return out
}

func TestCutAndSplit(t *testing.T) {
	l := strewn(list(3, 2, 5, 2, 1, 1, 20, 3))
	all := blocks(l)
	for n := -2; n <= 10; n++ {
		at := max(0, min(n, len(all)))
		kept, gone := runs.Cut(l, n)
		a, b := runs.Split(l, n)
		for i, x := range [][]run{kept, a} {
			if !slices.Equal(blocks(x), all[:at]) {
				t.Errorf("call %d of %d: %v ahead", i, n, x)
			}
		}
		for i, x := range [][]run{gone, b} {
			if !slices.Equal(blocks(x), all[at:]) {
				t.Errorf("call %d of %d: %v behind", i, n, x)
			}
		}
		if !slices.Equal(kept, runs.Merge(a)) || !slices.Equal(gone, runs.Merge(b)) {
			t.Errorf("Cut(%d) is not merged: %v, %v", n, kept, gone)
		}
	}
	if a, b := runs.Split(l, 3); !slices.Equal(a, list(3, 2, 5, 1)) || !slices.Equal(b, list(6, 1, 1, 1, 20, 3)) {
		t.Errorf("Split(3): %v, %v", a, b)
	}
	if a, b := runs.Split(l, 2); !slices.Equal(a, list(3, 2)) || !slices.Equal(b, list(5, 2, 1, 1, 20, 3)) {
		t.Errorf("Split(2): %v, %v", a, b)
	}
	if a, b := runs.Split(l, math.MinInt); len(a) != 0 || len(b) != 4 {
		t.Errorf("Split at the least number: %v, %v", a, b)
	}
	if a, b := runs.Split(l, math.MaxInt); len(a) != 4 || len(b) != 0 {
		t.Errorf("Split at the greatest number: %v, %v", a, b)
	}
}

func TestCutHigh(t *testing.T) {
	l := list(top, 3, 1, 1)
	if kept, gone := runs.Cut(l, 1); !slices.Equal(kept, list(top, 1)) || !slices.Equal(gone, list(1, 1)) {
		t.Errorf("Cut: a rest too high: %v, %v", kept, gone)
	}
	if a, b := runs.Split(l, 1); !slices.Equal(a, list(top, 1)) || !slices.Equal(b, list(top+1, 2, 1, 1)) {
		t.Errorf("Split: a rest too high: %v, %v", a, b)
	}
}

func TestOwnMemory(t *testing.T) {
	l := list(3, 2, 9, 2)
	kept, gone := runs.Cut(l, 2)
	kept = append(kept, list(77, 7)...)
	a, b := runs.Split(l, 2)
	a = append(a, list(77, 7)...)
	m := runs.Merge(l)
	m[0], kept[0], a[0] = run{}, run{}, run{}
	if !slices.Equal(gone, list(9, 2)) || !slices.Equal(b, list(9, 2)) || !slices.Equal(l, list(3, 2, 9, 2)) {
		t.Error("lists share their memory")
	}
}

func TestApart(t *testing.T) {
	for _, c := range []struct {
		l    []run
		want bool
	}{
		{nil, true}, {list(3, 2), true}, {list(3, 2, 5, 1), true}, {list(5, 1, 3, 2), true}, {list(3, 2, 4, 1), false}, {list(4, 1, 3, 2), false},
		{list(3, 1, 3, 1), false}, {list(9, 1, 1, 1, 5, 1, 0, 9), false}, {list(9, 1, 1, 1, 5, 1, 2, 3), true}, {list(0, top, top, top), true}, {list(0, top, top-1, 1), false},
		{list(1, 20, 5, 1, 30, 1), false},
	} {
		was := slices.Clone(c.l)
		if runs.Apart(c.l) != c.want || runs.Apart(strewn(c.l)) != c.want || !slices.Equal(c.l, was) {
			t.Errorf("Apart(%v): not %v", was, c.want)
		}
	}
}
