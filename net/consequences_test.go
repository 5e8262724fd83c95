package net_test

import (
	"math/rand"
	"slices"
	"testing"

	"quietus/api"
	"quietus/net"
)

// eachServed calls a function with many tasks of which net.Serves says that their schedule serves.
func eachServed(t *testing.T, seed int64, many int, f func(r *rand.Rand, x task)) {
	t.Helper()
	number := 0
	each(t, seed, many, func(r *rand.Rand, x task) {
		if net.Serves(x.n, x.l, x.d) != api.OK {
			return
		}
		number++
		f(r, x)
	})
	if number < many {
		t.Error("too few schedules that serve", number)
	}
}

// ticks are ticks of a schedule and around them, among them those at which a demand begins and ends.
func ticks(x task) []int {
	l := []int{0, x.d.Ready - 24, x.d.Ready - 1, x.d.Ready, x.d.Due, x.d.Due + 1, end}
	for _, s := range x.l {
		l = append(l, s.Tick, s.Tick+1)
	}
	return slices.DeleteFunc(l, func(tick int) bool { return !isIn(tick, 0, end) })
}

// TestNothingIsLost adds up the stocks of all houses.
func TestNothingIsLost(t *testing.T) {
	eachServed(t, 20, 1000, func(_ *rand.Rand, x task) {
		for _, s := range x.l {
			if s.Tick < x.d.Ready {
				t.Fatal("P15.8: Serves of", x, "but something is sent before Ready", s)
			}
		}
		for _, tick := range ticks(x) {
			sum := 0
			for house := range x.n.Houses {
				stock, e := net.Stock(x.n, x.l, x.d, house, tick)
				if stock < 0 || e != api.OK || tick < x.d.Ready && stock != 0 {
					t.Fatal("P15.8: Stock of", x, house, tick, stock, e)
				}
				sum += stock
			}
			if tick >= x.d.Ready && sum != x.d.Bytes {
				t.Fatal("P15.8: the stocks of", x, "at", tick, "are", sum)
			}
		}
	})
}

// TestCuts looks at all sets of houses that have From, and not To.
func TestCuts(t *testing.T) {
	cuts := 0
	eachServed(t, 21, 300, func(_ *rand.Rand, x task) {
		for set := range 1 << x.n.Houses {
			has := func(house int) bool { return set>>house&1 == 1 }
			if !has(x.d.From) || has(x.d.To) {
				continue
			}
			cuts++
			more := 0
			for _, s := range x.l {
				k := x.n.Links[s.Link]
				switch {
				case s.Tick >= x.d.Due:
				case has(k.From) && !has(k.To):
					more += s.Bytes
				case has(k.To) && !has(k.From):
					more -= s.Bytes
				}
			}
			if more != x.d.Bytes {
				t.Fatal("P15.9: out of the set", set, "of", x, more, "are sent")
			}
		}
	})
	if cuts < 5000 {
		t.Error("too few sets", cuts)
	}
}

// TestEasier gives a demand more capacity and an earlier Ready.
func TestEasier(t *testing.T) {
	earlier := 0
	eachServed(t, 22, 1500, func(r *rand.Rand, x task) {
		before, _ := net.Arrives(x.n, x.l, x.d)
		y := copied(x)
		if r.Intn(2) == 0 {
			y.d.Ready -= r.Intn(y.d.Ready + 1)
		}
		for k := range y.n.Links {
			for h := range 24 {
				c := &y.n.Links[k].Cap[h]
				*c = min(most, *c+r.Intn(2)*r.Intn(100))
			}
		}
		after, e := net.Arrives(y.n, y.l, y.d)
		if e != api.OK || after > before {
			t.Fatal("P15.10: Arrives of", x, before, "but with more capacity, or ready earlier", y, after, e)
		}
		if after < before {
			earlier++
		}
	})
	if earlier < 50 {
		t.Error("too few demands that arrive earlier", earlier)
	}
}

// TestDaysLater moves a schedule and its demand by a number of days, and checks that all results are the same, also those of a schedule that does not serve.
func TestDaysLater(t *testing.T) {
	moved := 0
	each(t, 23, 3000, func(r *rand.Rand, x task) {
		if net.Right(x.n, x.l) != api.OK || x.d.Ready < 0 || x.d.Due > end-24 || len(x.l) > 0 && x.l[len(x.l)-1].Tick > end-25 {
			return
		}
		last := x.d.Due
		for _, s := range x.l {
			last = max(last, s.Tick+1)
		}
		by := 24 * (1 + r.Intn((end-last)/24))
		y := copied(x)
		y.d.Ready, y.d.Due = y.d.Ready+by, y.d.Due+by
		for k := range y.l {
			y.l[k].Tick += by
		}
		cost, _ := net.Cost(x.n, x.l)
		if later, e := net.Cost(y.n, y.l); later != cost || e != api.OK {
			t.Fatal("P15.10: Cost of", x, cost, "but", by, "ticks later", later, e)
		}
		tick, e := net.Arrives(x.n, x.l, x.d)
		later, f := net.Arrives(y.n, y.l, y.d)
		if e != f || e == api.OK && later != tick+by {
			t.Fatal("P15.10: Arrives of", x, tick, e, "but", by, "ticks later", later, f)
		}
		if e == api.OK {
			moved++
		}
	})
	if moved < 2000 {
		t.Error("too few schedules that serve", moved)
	}
}

// TestJoinAsSum checks that the order of schedules does not matter to Join, that costs are added up, and that what fits together fits alone.
func TestJoinAsSum(t *testing.T) {
	r := rand.New(rand.NewSource(24))
	fits := 0
	for range 5000 {
		houses := 2 + r.Intn(5)
		n := anyNet(r, houses, houses+r.Intn(4), 500)
		ls := someSchedules(r, n, 1+r.Intn(5), 40)
		l, e := net.Join(n, ls)
		if e != api.OK {
			t.Fatal("P15.4: Join of", ls, e)
		}
		sum := 0
		for _, l := range ls {
			cost, _ := net.Cost(n, l)
			sum += cost
		}
		if cost, e := net.Cost(n, l); cost != sum || e != api.OK {
			t.Fatal("P15.11: Cost of", ls, "joined", cost, e, "and not", sum)
		}
		if net.Fits(n, l) == api.OK {
			fits++
			for _, alone := range ls {
				if e := net.Fits(n, alone); e != api.OK {
					t.Fatal("P15.11: Fits of", ls, "joined, but alone", alone, e)
				}
			}
		}
		cut := r.Intn(len(ls))
		begin, _ := net.Join(n, ls[:cut])
		two, e := net.Join(n, append(slices.Clone(ls[cut:]), begin))
		if !slices.Equal(two, l) || e != api.OK {
			t.Fatal("P15.11: Join of", ls, l, "but of some of them first", two, e)
		}
		r.Shuffle(len(ls), func(i, k int) { ls[i], ls[k] = ls[k], ls[i] })
		other, e := net.Join(n, ls)
		if !slices.Equal(other, l) || e != api.OK {
			t.Fatal("P15.11: Join of", ls, other, e, "but in another order", l)
		}
	}
	if fits < 500 {
		t.Error("too few schedules that fit together", fits)
	}
}
