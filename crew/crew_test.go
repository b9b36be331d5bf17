package crew_test

import (
	"bytes"
	"math"
	"math/rand"
	"slices"
	"strconv"
	"testing"

	"lintel/api"
	"lintel/check"
	"lintel/crew"
	"lintel/disk"
	"lintel/geom"
	"lintel/lock"
	"lintel/tree"
)

var three = geom.Geom{Blocks: 200, Nodes: 20, Clients: 3, Book: 16}

func on(kind int, a string) tree.Op { return tree.Op{Kind: kind, A: a} }

func put(a string, data string) tree.Op { return tree.Op{Kind: 10, A: a, Data: []byte(data)} }

func same(a, b tree.Result) bool {
	return a.Err == b.Err && a.Node == b.Node && a.Type == b.Type && a.Links == b.Links && a.Size == b.Size && bytes.Equal(a.Data, b.Data) && slices.Equal(a.Names, b.Names)
}

func begin(t *testing.T) *crew.Crew {
	t.Helper()
	m, err := disk.Make(three)
	if err != api.OK {
		t.Fatal(err)
	}
	d, err := disk.Mount(m)
	if err != api.OK {
		t.Fatal(err)
	}
	c, err := crew.New(d)
	if err != api.OK || c.Disk != d {
		t.Fatal(err)
	}
	return c
}

func ask(t *testing.T, c *crew.Crew, client int, o tree.Op) {
	t.Helper()
	if err := c.Ask(client, o); err != api.OK || c.At(client) != 1 {
		t.Fatalf("Ask(%d): %v, at %d", client, err, c.At(client))
	}
}

// step: the client goes on to a step, or ends.
func step(t *testing.T, c *crew.Crew, client, at int) {
	t.Helper()
	ended, err := c.Step(client)
	if err != api.OK || ended != (at == 0) || c.At(client) != at {
		t.Fatalf("Step(%d): %v, %v, at %d, not %d", client, ended, err, c.At(client), at)
	}
}

// stays: the step is refused.
func stays(t *testing.T, c *crew.Crew, client int, want api.Errno) {
	t.Helper()
	at := c.At(client)
	if ended, err := c.Step(client); err != want || ended || c.At(client) != at {
		t.Errorf("Step(%d): %v, %v, at %d", client, ended, err, c.At(client))
	}
}

// through steps a client to the end.
func through(t *testing.T, c *crew.Crew, client int, o tree.Op) tree.Result {
	t.Helper()
	ask(t, c, client, o)
	for {
		ended, err := c.Step(client)
		if err != api.OK {
			t.Fatal(err)
		}
		if ended {
			l := c.Log()
			return l[len(l)-1].Result
		}
	}
}

func TestNew(t *testing.T) {
	if c, err := crew.New(nil); c != nil || err != api.EARG {
		t.Errorf("New of none: %v", err)
	}
	c := begin(t)
	if len(c.Log()) != 0 || c.Clients != 3 || c.Blocks != 200 || c.Lines() != 200 || len(c.Locks().Who(1)) != 0 {
		t.Error("a new one")
	}
	for _, client := range []int{-1, 3, math.MaxInt, math.MinInt} {
		if c.Ask(client, on(1, "/a")) != api.EARG || c.At(client) != 0 {
			t.Errorf("client %d", client)
		}
		stays(t, c, client, api.EARG)
	}
	stays(t, c, 0, api.ENOENT)
}

func TestSixSteps(t *testing.T) {
	c := begin(t)
	ask(t, c, 1, on(1, "/a"))
	if c.Ask(1, on(1, "/b")) != api.EBUSY || len(c.Locks().Who(1)) != 0 {
		t.Error("asked twice, or holds a lock already")
	}
	was := c.Image()
	step(t, c, 1, 2)
	if !slices.Equal(c.Locks().Holds(1), []lock.Want{{Key: 1, Alone: true}}) {
		t.Errorf("locks: %v", c.Locks().Holds(1))
	}
	step(t, c, 1, 3)
	if !slices.Equal(c.Image(), was) {
		t.Error("the first two steps write")
	}
	step(t, c, 1, 4)
	if slices.Equal(c.Image(), was) || c.Image()[8*17] != 0 {
		t.Error("Lay writes nothing fresh, or a mark")
	}
	step(t, c, 1, 5)
	if c.Image()[8*17] == 0 {
		t.Error("Keep writes no mark")
	}
	step(t, c, 1, 6)
	if c.Image()[8*17] != 0 || !check.Fine(c.Image()) || len(c.Locks().Who(1)) != 1 || len(c.Log()) != 0 {
		t.Error("behind Done")
	}
	step(t, c, 1, 0)
	l := c.Log()
	if len(l) != 1 || l[0].Client != 1 || l[0].Op.A != "/a" || l[0].Node != 3 || l[0].Err != api.OK || l[0].From != 0 || l[0].To != 6 || len(c.Locks().Who(1)) != 0 {
		t.Errorf("Log: %+v", l)
	}
	stays(t, c, 1, api.ENOENT)
}

func TestShortWays(t *testing.T) {
	c := begin(t)
	for _, o := range []tree.Op{on(13, "/"), on(4, "/none"), on(99, "/"), {Kind: 6, A: "/lost+found/..", B: "/"}} {
		ask(t, c, 0, o)
		step(t, c, 0, 2)
		step(t, c, 0, 6)
		step(t, c, 0, 0)
	}
	l := c.Log()
	if len(l) != 4 || !slices.Equal(l[0].Names, []string{"lost+found"}) || l[1].Err != api.ENOENT || l[2].Err != api.EARG || l[3].From != 9 || l[3].To != 12 {
		t.Errorf("Log: %+v", l)
	}
	through(t, c, 0, on(2, "/f"))
	ask(t, c, 0, put("/f", ""))
	step(t, c, 0, 2)
	step(t, c, 0, 6) // no writes
	step(t, c, 0, 0)
}

func TestLocks(t *testing.T) {
	c := begin(t)
	for _, kind := range []int{8, 9, 12, 13} {
		ask(t, c, 0, on(kind, "/"))
		ask(t, c, 1, on(kind, "/"))
		ask(t, c, 2, on(1, "/x"+strconv.Itoa(kind)))
		step(t, c, 0, 2)
		step(t, c, 1, 2)
		if !slices.Equal(c.Locks().Who(1), []int{0, 1}) || c.Locks().Holds(0)[0].Alone {
			t.Errorf("kind %d: who reads does so alone", kind)
		}
		stays(t, c, 2, api.EBUSY)
		step(t, c, 0, 6)
		step(t, c, 0, 0)
		stays(t, c, 2, api.EBUSY)
		step(t, c, 1, 6)
		step(t, c, 1, 0)
		step(t, c, 2, 2)
		ask(t, c, 0, on(kind, "/"))
		stays(t, c, 0, api.EBUSY)
		ask(t, c, 1, on(5, "/y"))
		stays(t, c, 1, api.EBUSY)
		for at := 3; at <= 6; at++ {
			step(t, c, 2, at)
		}
		stays(t, c, 0, api.EBUSY)
		step(t, c, 2, 0)
		step(t, c, 0, 2)
		stays(t, c, 1, api.EBUSY)
		step(t, c, 0, 6)
		step(t, c, 0, 0)
		step(t, c, 1, 2)
		step(t, c, 1, 6)
		step(t, c, 1, 0)
	}
}

func TestCounts(t *testing.T) {
	c := begin(t)
	ask(t, c, 0, on(13, "/"))
	step(t, c, 0, 2)
	ask(t, c, 1, on(1, "/a"))
	stays(t, c, 1, api.EBUSY) // refused Steps do not count
	stays(t, c, 2, api.ENOENT)
	stays(t, c, 9, api.EARG)
	step(t, c, 0, 6)
	step(t, c, 0, 0)
	for _, at := range []int{2, 3, 4, 5, 6, 0} {
		step(t, c, 1, at)
	}
	l := c.Log()
	if l[0].From != 0 || l[0].To != 3 || l[1].From != 1 || l[1].To != 9 {
		t.Errorf("From, To: %+v", l)
	}
}

func TestFallInTheMidst(t *testing.T) {
	for at := 3; at <= 5; at++ {
		c := begin(t)
		ask(t, c, 0, on(1, "/a"))
		for next := 2; next <= at; next++ {
			step(t, c, 0, next)
		}
		c.Fuse(2)
		step(t, c, 0, 6) // it counts
		if !c.Off() {
			t.Fatal("power still")
		}
		stays(t, c, 0, api.EOFF)
		ask(t, c, 1, on(12, "/"))
		stays(t, c, 1, api.EOFF)
		stays(t, c, 2, api.ENOENT)
		c.On()
		step(t, c, 0, 0)
		l := c.Log()
		if len(l) != 1 || !same(l[0].Result, tree.Result{Err: api.EOFF}) || l[0].To != at+1 || len(c.Locks().Who(1)) != 0 {
			t.Errorf("a fall at step %d: %+v", at, l)
		}
		d, err := disk.Mount(c.Mem)
		if err != api.OK || !check.Fine(d.Image()) {
			t.Errorf("a fall at step %d: not fine", at)
		}
	}
}

func TestStepErrors(t *testing.T) {
	c := begin(t)
	p, _ := c.Plan(0, on(1, "/other"))
	c.Keep(0, p) // its book is busy
	ask(t, c, 0, on(1, "/a"))
	step(t, c, 0, 2)
	step(t, c, 0, 3)
	step(t, c, 0, 4)
	step(t, c, 0, 6)
	step(t, c, 0, 0)
	if l := c.Log(); !same(l[0].Result, tree.Result{Err: api.EBUSY}) {
		t.Errorf("an error of Keep: %+v", l)
	}
}

func TestOwnMemory(t *testing.T) {
	c := begin(t)
	through(t, c, 0, on(2, "/f"))
	o := put("/f", "abc")
	ask(t, c, 0, o)
	o.Data[0] = 'z'
	for range 6 {
		c.Step(0)
	}
	r := through(t, c, 0, tree.Op{Kind: 9, A: "/f", N: 9})
	if string(r.Data) != "abc" {
		t.Errorf("what was asked is shared: %q", r.Data)
	}
	through(t, c, 0, on(13, "/"))
	l := c.Log()
	l[1].Op.Data[0], l[2].Data[0], l[3].Names[0], l[0].Client = 'z', 'z', "z", 9
	l = c.Log()
	if string(l[1].Op.Data) != "abc" || string(l[2].Data) != "abc" || l[3].Names[0] != "f" || l[0].Client != 0 {
		t.Errorf("Log shares its memory: %+v", l)
	}
}

func anyOp(r *rand.Rand) tree.Op {
	way := func() string {
		s := "/" + string(rune('a'+r.Intn(4)))
		for r.Intn(3) == 0 {
			s += "/" + string(rune('a'+r.Intn(4)))
		}
		return s
	}
	return tree.Op{Kind: 1 + r.Intn(13), A: way(), B: way(), At: r.Intn(90), N: r.Intn(200), Data: []byte(way())}
}

// TestAnything: clients go on as a random script picks them; what they were told has one order, that of the log.
func TestAnything(t *testing.T) {
	for seed := range 8 {
		r := rand.New(rand.NewSource(int64(seed)))
		c := begin(t)
		steps := 0
		for range 1500 {
			client := r.Intn(3)
			if c.At(client) == 0 {
				ask(t, c, client, anyOp(r))
			}
			if _, err := c.Step(client); err == api.OK {
				steps++
			} else if err != api.EBUSY {
				t.Fatal(err)
			}
		}
		model := tree.New(20)
		for i, x := range c.Log() {
			was := model.Clone()
			want := model.Do(x.Op)
			if x.Err == api.ENOSPC {
				model, want = was, x.Result
			}
			if !same(x.Result, want) || x.To <= x.From || x.To > steps {
				t.Fatalf("thing %d: %+v, not %+v", i, x, want)
			}
		}
		if len(c.Log()) < 100 {
			t.Errorf("%d things alone", len(c.Log()))
		}
	}
}
