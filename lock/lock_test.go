package lock_test

import (
	"math"
	"math/rand"
	"slices"
	"testing"

	"lintel/api"
	"lintel/lock"
)

func alone(key int) lock.Want  { return lock.Want{Key: key, Alone: true} }
func shared(key int) lock.Want { return lock.Want{Key: key} }

// take: May and Take both say so.
func take(t *testing.T, x *lock.Table, want api.Errno, who int, l ...lock.Want) {
	t.Helper()
	was := x.Holds(who)
	given := slices.Clone(l)
	if x.May(who, l...) != (want == api.OK) {
		t.Errorf("May(%d, %v): not %v", who, l, want)
	}
	if err := x.Take(who, l...); err != want {
		t.Errorf("Take(%d, %v): %v, not %v", who, l, err, want)
	}
	if want == api.OK {
		was = l
	}
	if got := x.Holds(who); !slices.Equal(got, was) || !slices.Equal(l, given) {
		t.Errorf("behind Take(%d, %v): Holds %v", who, l, got)
	}
}

func who(t *testing.T, x *lock.Table, key int, want ...int) {
	t.Helper()
	if got := x.Who(key); !slices.Equal(got, want) {
		t.Errorf("Who(%d): %d, not %d", key, got, want)
	}
}

func TestTake(t *testing.T) {
	x := lock.New()
	who(t, x, 1)
	take(t, x, api.OK, 7, shared(1))
	take(t, x, api.OK, 5, shared(1), alone(2))
	take(t, x, api.EBUSY, 6, alone(1))
	take(t, x, api.EBUSY, 6, shared(0), shared(2))
	take(t, x, api.EBUSY, 6, alone(2))
	who(t, x, 0)
	who(t, x, 1, 5, 7)
	who(t, x, 2, 5)
	x.Give(5)
	who(t, x, 1, 7)
	who(t, x, 2)
	take(t, x, api.EBUSY, 6, alone(1))
	take(t, x, api.OK, 6, alone(2))
	x.Give(7)
	who(t, x, 1)
	take(t, x, api.OK, 7, alone(1))
	take(t, x, api.EBUSY, 5, shared(1))
}

func TestRefused(t *testing.T) {
	x := lock.New()
	take(t, x, api.EARG, 1)
	take(t, x, api.EARG, 1, shared(1), shared(1))
	take(t, x, api.EARG, 1, shared(1), alone(1))
	take(t, x, api.EARG, 1, shared(2), shared(1))
	take(t, x, api.EARG, 1, shared(1), shared(3), shared(2))
	take(t, x, api.OK, 1, alone(1), shared(2))
	take(t, x, api.EARG, 1, shared(3))
	take(t, x, api.EARG, 1, shared(1))
	take(t, x, api.EARG, 2, shared(2), shared(1)) // ahead of EBUSY
	take(t, x, api.EBUSY, 2, shared(0), shared(1), shared(5))
	who(t, x, 0)
	who(t, x, 5)
	take(t, x, api.OK, 2, shared(2))
}

func TestAnyNumbers(t *testing.T) {
	x := lock.New()
	take(t, x, api.OK, math.MinInt, shared(math.MinInt), shared(-1), shared(0), shared(math.MaxInt))
	take(t, x, api.OK, math.MaxInt, shared(math.MinInt), shared(math.MaxInt))
	take(t, x, api.OK, 0, shared(math.MinInt))
	who(t, x, math.MinInt, math.MinInt, 0, math.MaxInt)
	who(t, x, math.MaxInt, math.MinInt, math.MaxInt)
	x.Give(99)
	x.Give(math.MinInt)
	x.Give(math.MinInt)
	who(t, x, math.MinInt, 0, math.MaxInt)
	if len(x.Holds(math.MinInt)) != 0 || len(x.Holds(12)) != 0 {
		t.Error("Holds of none")
	}
}

func TestOwnMemory(t *testing.T) {
	x := lock.New()
	l := []lock.Want{alone(1), shared(2)}
	x.Take(1, l...)
	l[0].Key = 9
	x.Holds(1)[0].Key = 9
	x.Who(1)[0] = 9
	who(t, x, 1, 1)
	if !slices.Equal(x.Holds(1), []lock.Want{alone(1), shared(2)}) {
		t.Errorf("Holds: %v", x.Holds(1))
	}
}

// TestAnything holds the table against a plain list of who has what.
func TestAnything(t *testing.T) {
	type one struct {
		who int
		w   lock.Want
	}
	r := rand.New(rand.NewSource(1))
	x := lock.New()
	var l []one
	for range 3000 {
		n := r.Intn(6)
		if r.Intn(3) == 0 {
			x.Give(n)
			l = slices.DeleteFunc(l, func(o one) bool { return o.who == n })
			continue
		}
		var wants []lock.Want
		for key := range 4 {
			if r.Intn(2) == 0 {
				wants = append(wants, lock.Want{Key: key, Alone: r.Intn(4) == 0})
			}
		}
		want := api.OK
		for _, o := range l {
			for _, w := range wants {
				if o.w.Key == w.Key && (o.w.Alone || w.Alone) {
					want = api.EBUSY
				}
			}
		}
		if len(wants) == 0 || slices.ContainsFunc(l, func(o one) bool { return o.who == n }) {
			want = api.EARG
		}
		take(t, x, want, n, wants...)
		if want == api.OK {
			for _, w := range wants {
				l = append(l, one{n, w})
			}
		}
		for key := range 4 {
			var holders []int
			for _, o := range l {
				if o.w.Key == key {
					holders = append(holders, o.who)
				}
			}
			slices.Sort(holders)
			who(t, x, key, holders...)
		}
	}
}
