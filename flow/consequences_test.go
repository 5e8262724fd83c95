package flow_test

import (
	"math/rand"
	"slices"
	"testing"

	"quietus/api"
	"quietus/flow"
	"quietus/net"
)

// price is what the cheapest schedule of a task costs, and the error if there is none.
func price(x task) (int, api.Errno) {
	l, e := flow.Cheapest(x.n, x.used, x.d)
	cost, _ := net.Cost(x.n, l)
	return cost, e
}

// TestSameTasks checks that there are a cheapest schedule and an earliest tick exactly if Bytes is at most Most, and that this tick is just late enough.
func TestSameTasks(t *testing.T) {
	seen := map[api.Errno]int{}
	each(t, 20, 2000, func(_ *rand.Rand, x task) {
		want := api.OK
		if m, _ := flow.Most(x.n, x.used, x.d); x.d.Bytes > m {
			want = api.ErrLate
		}
		seen[want]++
		_, e := price(x)
		tick, f := flow.Earliest(x.n, x.used, x.d)
		if e != want || f != want {
			t.Fatal("P16.5: Cheapest and Earliest of", x, e, f, "and not", want)
		}
		if want != api.OK {
			return
		}
		if !isIn(tick, x.d.Ready, x.d.Due) {
			t.Fatal("P16.4: Earliest of", x, tick)
		}
		x.d.Due = tick
		l, e := flow.Cheapest(x.n, x.used, x.d)
		if at, f := net.Arrives(x.n, l, x.d); e != api.OK || f != api.OK || at != tick {
			t.Fatal("P16.5: Cheapest of", x, "with its earliest tick", l, e, at, f)
		}
		if x.d.Due--; tick > x.d.Ready {
			if _, e := price(x); e != api.ErrLate {
				t.Fatal("P16.5: Cheapest of", x, "with an earlier tick", e)
			}
		}
	})
	enough(t, seen, 400, api.OK, api.ErrLate)
}

// fronts calls a function with many fronts of a task, among them all of small ones.
func fronts(r *rand.Rand, x task, f func(ticks []int)) {
	span, number := x.d.Due-x.d.Ready+2, 1
	for range x.n.Houses {
		number = min(number*span, 1000000)
	}
	ticks := make([]int, x.n.Houses)
	for k := range min(number, 400) {
		for h := range ticks {
			ticks[h] = x.d.Ready + r.Intn(span)
			if number <= 400 {
				ticks[h] = x.d.Ready + k%span
				k /= span
			}
		}
		ticks[x.d.From], ticks[x.d.To] = x.d.Ready, x.d.Due+1
		if r.Intn(4) == 0 {
			ticks[x.d.From] -= r.Intn(10)
			ticks[x.d.To] += r.Intn(10)
		}
		f(ticks)
	}
}

// TestFronts compares Most with what is left of the links that lead over a front.
func TestFronts(t *testing.T) {
	least := 0
	each(t, 21, 600, func(r *rand.Rand, x task) {
		if x.d.From == x.d.To {
			return
		}
		m, _ := flow.Most(x.n, x.used, x.d)
		met, places := false, between(x)
		fronts(r, x, func(ticks []int) {
			sum := barrier(x.n, places, ticks)
			if m > sum {
				t.Fatal("P16.6: Most of", x, m, "but at the front", ticks, "only", sum)
			}
			met = met || m == sum
		})
		if met {
			least++
		}
	})
	if least < 200 {
		t.Error("too few fronts that stop all but Most", least)
	}
}

// freed is a task with less capacity taken.
func freed(r *rand.Rand, x task) task {
	x = copied(x)
	for k := range x.used {
		x.used[k].Bytes -= r.Intn(2) * r.Intn(x.used[k].Bytes+1)
	}
	x.used = slices.DeleteFunc(x.used, func(s api.Send) bool { return s.Bytes == 0 || r.Intn(10) == 0 })
	return x
}

// TestEasier compares a task with one of less capacity taken, or a later Due.
func TestEasier(t *testing.T) {
	better, cheaper := 0, 0
	each(t, 22, 2000, func(r *rand.Rand, x task) {
		y := freed(r, x)
		if r.Intn(2) == 0 {
			y = x
			y.d.Due = min(end, x.d.Due+r.Intn(x.d.Ready+33-x.d.Due))
		}
		before, _ := flow.Most(x.n, x.used, x.d)
		after, e := flow.Most(y.n, y.used, y.d)
		if e != api.OK || after < before {
			t.Fatal("P16.7: Most of", x, before, "but of", y, after, e)
		}
		cost, e := price(x)
		less, f := price(y)
		if e == api.OK && (f != api.OK || less > cost) {
			t.Fatal("P16.7: the cheapest schedule of", x, "costs", cost, "but that of", y, less, f)
		}
		if after > before {
			better++
		}
		if e == api.OK && less < cost {
			cheaper++
		}
	})
	if better < 200 || cheaper < 100 {
		t.Error("too few tasks that became easier", better, cheaper)
	}
}

// TestFewerBytes compares a task with one of fewer bytes.
func TestFewerBytes(t *testing.T) {
	compared := 0
	each(t, 23, 1500, func(r *rand.Rand, x task) {
		cost, e := price(x)
		if e != api.OK {
			return
		}
		compared++
		y := x
		y.d.Bytes = 1 + r.Intn(x.d.Bytes)
		if less, e := price(y); e != api.OK || less > cost {
			t.Fatal("P16.7: the cheapest schedule of", x, "costs", cost, "but that of", y, less, e)
		}
	})
	if compared < 500 {
		t.Error("too few tasks", compared)
	}
}
