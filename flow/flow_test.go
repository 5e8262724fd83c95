package flow_test

import (
	"math"
	"math/rand"
	"slices"
	"testing"

	"quietus/api"
	"quietus/flow"
	"quietus/net"
)

// TestExamples checks the examples of the chapter.
func TestExamples(t *testing.T) {
	for _, x := range []struct {
		name              string
		used              []api.Send
		bytes, due        int
		most, cost, first int
		e                 api.Errno
	}{
		{"nothing used", nil, 120, 8, 230, 390, 7, api.OK},
		{"the link 0 used at 5", []api.Send{send(0, 5, 100)}, 120, 8, 130, 390, 8, api.OK},
		{"230 bytes", nil, 230, 8, 230, 830, 8, api.OK},
		{"231 bytes", nil, 231, 8, 230, 0, 0, api.ErrLate},
	} {
		y := example()
		y.used, y.d.Bytes, y.d.Due = x.used, x.bytes, x.due
		if e := flow.Check(y.n, y.used, y.d); e != api.OK {
			t.Error("P16.1: Check with", x.name, e)
		}
		if m, e := flow.Most(y.n, y.used, y.d); m != x.most || e != api.OK {
			t.Error("P16.2: Most with", x.name, m, e)
		}
		l, e := flow.Cheapest(y.n, y.used, y.d)
		if cost, _ := net.Cost(y.n, l); cost != x.cost || e != x.e {
			t.Error("P16.3: Cheapest with", x.name, l, cost, e)
		}
		if tick, e := flow.Earliest(y.n, y.used, y.d); tick != x.first || e != x.e {
			t.Error("P16.4: Earliest with", x.name, tick, e)
		}
	}
	y := example()
	y.d.Due = 38
	checkError(t, "Due 38", y, api.ErrLimit)
}

// checkError calls all functions, and checks that each returns an error, and nothing else but it.
func checkError(t *testing.T, name string, x task, want api.Errno) {
	t.Helper()
	if e := flow.Check(x.n, x.used, x.d); e != want {
		t.Error("P16.1: Check with", name, e, "and not", want)
	}
	if m, e := flow.Most(x.n, x.used, x.d); m != 0 || e != want {
		t.Error("P16.1: Most with", name, m, e, "and not", want)
	}
	if l, e := flow.Cheapest(x.n, x.used, x.d); len(l) > 0 || e != want {
		t.Error("P16.1: Cheapest with", name, l, e, "and not", want)
	}
	if tick, e := flow.Earliest(x.n, x.used, x.d); tick != 0 || e != want {
		t.Error("P16.1: Earliest with", name, tick, e, "and not", want)
	}
}

// TestErrors checks each error, alone and together with later ones.
func TestErrors(t *testing.T) {
	for _, x := range []struct {
		name   string
		change func(x *task)
		want   api.Errno
	}{
		{"no houses", func(x *task) { x.n.Houses = 0 }, api.ErrLimit},
		{"13 houses", func(x *task) { x.n.Houses = 13 }, api.ErrLimit},
		{"a link to no house", func(x *task) { x.n.Links[1].To = 3 }, api.ErrArg},
		{"a capacity that is too great", func(x *task) { x.n.Links[1].Cap[23] = most + 1 }, api.ErrRange},
		{"no such link used", func(x *task) { x.used = []api.Send{send(3, 5, 1)} }, api.ErrArg},
		{"no bytes used", func(x *task) { x.used = []api.Send{send(2, 5, 0)} }, api.ErrRange},
		{"used in no tick", func(x *task) { x.used = []api.Send{send(2, -1, 1)} }, api.ErrRange},
		{"used twice", func(x *task) { x.used = []api.Send{send(2, 5, 1), send(2, 5, 1)} }, api.ErrArg},
		{"2001 sends used", func(x *task) { x.used = make([]api.Send, 2001) }, api.ErrLimit},
		{"a wrong send used that does not fit, and a wrong demand", func(x *task) {
			x.used, x.d.From = []api.Send{send(2, 5, 11), send(2, 6, 0)}, -1
		}, api.ErrRange},
		{"one byte too many used", func(x *task) { x.used = []api.Send{send(2, 5, 11)} }, api.ErrFull},
		{"one byte too many used before Ready", func(x *task) { x.used = []api.Send{send(2, 4, 11)} }, api.ErrFull},
		{"one byte too many used in the last tick", func(x *task) { x.used = []api.Send{send(2, end-1, 11)} }, api.ErrFull},
		{"too many bytes used, and a wrong demand", func(x *task) { x.used, x.d.To = []api.Send{send(2, 5, 11)}, 3 }, api.ErrFull},
		{"too many bytes used, and Due too late", func(x *task) { x.used, x.d.Due = []api.Send{send(2, 5, 11)}, 38 }, api.ErrFull},
		{"from no house", func(x *task) { x.d.From = -1 }, api.ErrArg},
		{"from the house 3 of 3", func(x *task) { x.d.From = 3 }, api.ErrArg},
		{"to no house", func(x *task) { x.d.To = -1 }, api.ErrArg},
		{"to the house 3 of 3", func(x *task) { x.d.To = 3 }, api.ErrArg},
		{"from and to the house 3 of 3", func(x *task) { x.d.From, x.d.To = 3, 3 }, api.ErrArg},
		{"no bytes", func(x *task) { x.d.Bytes = 0 }, api.ErrArg},
		{"a negative number of bytes", func(x *task) { x.d.Bytes = -1 }, api.ErrArg},
		{"too many bytes", func(x *task) { x.d.Bytes = all + 1 }, api.ErrArg},
		{"a negative Ready", func(x *task) { x.d.Ready = -1 }, api.ErrArg},
		{"Ready after Due", func(x *task) { x.d.Ready = 9 }, api.ErrArg},
		{"Due after the last tick", func(x *task) { x.d.Ready, x.d.Due = end-3, end+1 }, api.ErrArg},
		{"Due long after the last tick", func(x *task) { x.d.Due = math.MaxInt }, api.ErrArg},
		{"the least Ready", func(x *task) { x.d.Ready = math.MinInt }, api.ErrArg},
		{"a wrong demand, and Due too late", func(x *task) { x.d.Bytes, x.d.Due = 0, 38 }, api.ErrArg},
		{"Due 33 ticks after Ready", func(x *task) { x.d.Due = 38 }, api.ErrLimit},
		{"Due in the last tick", func(x *task) { x.d.Due = end }, api.ErrLimit},
		{"Due 33 ticks after Ready, in the same house", func(x *task) { x.d.Due, x.d.To = 38, 0 }, api.ErrLimit},
	} {
		y := example()
		x.change(&y)
		checkError(t, x.name, y, x.want)
	}
}

// TestAnswers checks tasks, among them those on the borders of what is allowed, that look simple enough to say what comes out.
func TestAnswers(t *testing.T) {
	two := func(carries, price int) api.Net {
		return api.Net{Houses: 2, Links: []api.Link{link(0, 1, carries, price)}}
	}
	wide := api.Net{Houses: 12, Links: slices.Repeat([]api.Link{link(11, 0, most, 1000000)}, 60)}
	hours := two(10, 5)
	hours.Links[0].Cap[23], hours.Links[0].Price[1] = 3, 4
	there := func(bytes, ready, due int) api.Demand {
		return api.Demand{From: 0, To: 1, Bytes: bytes, Ready: ready, Due: due}
	}
	for _, x := range []struct {
		name              string
		x                 task
		most, cost, first int
		e                 api.Errno
	}{
		{"Due at Ready", task{two(9, 1), nil, there(1, 5, 5)}, 0, 0, 0, api.ErrLate},
		{"Due at Ready, in the same house", task{two(9, 1), nil, api.Demand{From: 1, To: 1, Bytes: all, Ready: 5, Due: 5}}, all, 0, 5, api.OK},
		{"one house", task{api.Net{Houses: 1}, nil, api.Demand{Bytes: 1, Due: 32}}, all, 0, 0, api.OK},
		{"the last house", task{wide, nil, api.Demand{From: 11, To: 11, Bytes: 7, Ready: 3, Due: 9}}, all, 0, 3, api.OK},
		{"no links", task{api.Net{Houses: 2}, nil, there(1, 0, 32)}, 0, 0, 0, api.ErrLate},
		{"a link in the other direction", task{two(9, 1), nil, api.Demand{From: 1, To: 0, Bytes: 1, Due: 32}}, 0, 0, 0, api.ErrLate},
		{"a link without capacity", task{two(0, 1), nil, there(1, 0, 32)}, 0, 0, 0, api.ErrLate},
		{"one tick", task{two(9, 4), nil, there(9, 0, 1)}, 9, 36, 1, api.OK},
		{"one tick, and one byte too many", task{two(9, 4), nil, there(10, 0, 1)}, 9, 0, 0, api.ErrLate},
		{"32 ticks", task{two(9, 4), nil, there(32*9, 8, 40)}, 32 * 9, 32 * 36, 40, api.OK},
		{"the first 32 ticks", task{two(9, 4), nil, there(31*9+1, 0, 32)}, 32 * 9, 4 * (31*9 + 1), 32, api.OK},
		{"the last 32 ticks", task{two(9, 4), nil, there(31*9, end-32, end)}, 32 * 9, 31 * 36, end - 1, api.OK},
		{"hours of two days", task{hours, nil, there(13, 23, 26)}, 23, 10*4 + 3*5, 25, api.OK},
		{"hours of two days, used", task{hours, []api.Send{send(0, 1, 10), send(0, 24, 2), send(0, 25, 4), send(0, 49, 9)}, there(13, 23, 26)}, 17, 6*4 + 7*5, 26, api.OK},
		{"all taken", task{two(9, 4), []api.Send{send(0, 5, 9), send(0, 7, 9), send(0, 8, 1)}, there(9, 5, 8)}, 9, 36, 7, api.OK},
		{"all taken, and one byte too many", task{two(9, 4), []api.Send{send(0, 5, 9), send(0, 7, 9), send(0, 8, 1)}, there(10, 5, 8)}, 9, 0, 0, api.ErrLate},
		{"the greatest numbers", task{wide, nil, api.Demand{From: 11, To: 0, Bytes: all, Due: 32}}, all, all * 1000000, 18, api.OK},
		{"just less than the greatest number of bytes", task{wide, nil, api.Demand{From: 11, To: 0, Bytes: 1, Due: 17}}, 17 * 60 * most, 1000000, 1, api.OK},
	} {
		if e := flow.Check(x.x.n, x.x.used, x.x.d); e != api.OK {
			t.Error("P16.1: Check of", x.name, e)
		}
		if m, e := flow.Most(x.x.n, x.x.used, x.x.d); m != x.most || e != api.OK {
			t.Error("P16.2: Most of", x.name, m, e, "and not", x.most)
		}
		l, e := flow.Cheapest(x.x.n, x.x.used, x.x.d)
		if cost, _ := net.Cost(x.x.n, l); cost != x.cost || e != x.e {
			t.Error("P16.3: Cheapest of", x.name, l, cost, e, "and not", x.cost, x.e)
		}
		if e == api.OK && net.Serves(x.x.n, l, x.x.d) != api.OK {
			t.Error("P16.3: Cheapest of", x.name, "does not serve", l)
		}
		if tick, e := flow.Earliest(x.x.n, x.x.used, x.x.d); tick != x.first || e != x.e {
			t.Error("P16.4: Earliest of", x.name, tick, e, "and not", x.first, x.e)
		}
	}
}

// spoil changes one number of a task a little, or to one of someNumbers.
func spoil(r *rand.Rand, x task) task {
	x = copied(x)
	n := someNumbers[r.Intn(len(someNumbers))]
	numbers := []*int{&x.d.From, &x.d.To, &x.d.Bytes, &x.d.Ready, &x.d.Due, &x.d.Due, &x.n.Houses}
	if k := len(x.used); k > 0 {
		s := &x.used[r.Intn(k)]
		numbers = append(numbers, &s.Link, &s.Tick, &s.Bytes, &s.Bytes)
	}
	if k := len(x.n.Links); k > 0 {
		on := &x.n.Links[r.Intn(k)]
		h := r.Intn(24)
		numbers = append(numbers, &on.From, &on.To, &on.Cap[h], &on.Price[h])
	}
	changed := numbers[r.Intn(len(numbers))]
	if r.Intn(2) == 0 {
		n = *changed + r.Intn(5) - 2
	}
	*changed = n
	return x
}

// TestCheck compares the errors of tasks of which some numbers are wrong with what the chapter says, word for word.
func TestCheck(t *testing.T) {
	seen := map[api.Errno]int{}
	each(t, 1, 4000, func(r *rand.Rand, x task) {
		for range 3 {
			want := wantCheck(x)
			seen[want]++
			if want != api.OK {
				checkError(t, "a spoilt task", x, want)
			} else if e := flow.Check(x.n, x.used, x.d); e != api.OK {
				t.Fatal("P16.1: Check of", x, e)
			}
			x = spoil(r, x)
		}
	})
	enough(t, seen, 100, api.OK, api.ErrArg, api.ErrLimit, api.ErrRange, api.ErrFull)
}

// TestAgainstAll compares the functions with what comes out if all schedules are tried.
func TestAgainstAll(t *testing.T) {
	r := rand.New(rand.NewSource(2))
	seen := map[api.Errno]int{}
	for range 5000 {
		x := tiny(r)
		if x.d.From == x.d.To {
			continue
		}
		costs := cheapest(x)
		greatest := 0
		for bytes := range costs {
			greatest = max(greatest, bytes)
		}
		if m, e := flow.Most(x.n, x.used, x.d); m != greatest || e != api.OK {
			t.Fatal("P16.2: Most of", x, m, e, "and not", greatest)
		}
		for bytes := 1; bytes <= greatest+1; bytes++ {
			x.d.Bytes = bytes
			cost, ok := costs[bytes]
			l, e := flow.Cheapest(x.n, x.used, x.d)
			if got, _ := net.Cost(x.n, l); (e == api.OK) != ok || got != cost || e != api.OK && e != api.ErrLate {
				t.Fatal("P16.3: Cheapest of", x, l, "costs", got, e, "and not", cost, ok)
			}
			seen[e]++
		}
		x.d.Bytes = 1 + r.Intn(greatest+1)
		compareEarliest(t, x)
	}
	enough(t, seen, 1000, api.OK, api.ErrLate)
}

// compareEarliest compares Earliest with what comes out if all schedules are tried for each tick.
func compareEarliest(t *testing.T, x task) {
	t.Helper()
	want, late := 0, api.ErrLate
	for y := x; y.d.Due >= x.d.Ready; y.d.Due-- {
		if _, ok := cheapest(y)[x.d.Bytes]; ok {
			want, late = y.d.Due, api.OK
		}
	}
	if tick, e := flow.Earliest(x.n, x.used, x.d); tick != want || e != late {
		t.Fatal("P16.4: Earliest of", x, tick, e, "and not", want, late)
	}
}

// TestCheapest checks that schedules are possible, serve, and that no other ones are cheaper.
func TestCheapest(t *testing.T) {
	seen := map[api.Errno]int{}
	each(t, 3, 2000, func(_ *rand.Rand, x task) {
		l, e := flow.Cheapest(x.n, x.used, x.d)
		seen[e]++
		if e != api.OK {
			return
		}
		if e := net.Serves(x.n, l, x.d); e != api.OK || !possible(x, l) {
			t.Fatal("P16.3: Cheapest of", x, l, "is not possible, or does not serve", e)
		}
		if !isCheapest(x, l) {
			t.Fatal("P16.3: Cheapest of", x, l, "is not the cheapest one")
		}
	})
	enough(t, seen, 200, api.OK, api.ErrLate)
}

// without are those sends whose bits are not in a set.
func without(l []api.Send, set int) []api.Send {
	var some []api.Send
	for k, s := range l {
		if set>>k&1 == 0 {
			some = append(some, s)
		}
	}
	return some
}

// TestLeftOut leaves out each send of a schedule, and all sets of them if there are not many. In many of the nets all or most sends cost nothing.
func TestLeftOut(t *testing.T) {
	sets := 0
	each(t, 4, 2000, func(r *rand.Rand, x task) {
		x = copied(x)
		for k := range x.n.Links {
			if r.Intn(3) > 0 {
				x.n.Links[k].Price = [24]int{}
			}
		}
		l, _ := flow.Cheapest(x.n, x.used, x.d)
		for k := range l {
			if net.Serves(x.n, slices.Delete(slices.Clone(l), k, k+1), x.d) == api.OK {
				t.Fatal("P16.3: Cheapest of", x, l, "serves without its send", k)
			}
		}
		if len(l) > 9 {
			return
		}
		for set := 1; set < 1<<len(l); set++ {
			sets++
			if net.Serves(x.n, without(l, set), x.d) == api.OK {
				t.Fatal("P16.3: Cheapest of", x, l, "serves without the sends", set)
			}
		}
	})
	if sets < 10000 {
		t.Error("too few sets of sends", sets)
	}
}

// TestMost checks that so many bytes as Most says can be in time, and that no more can: they stand before a front.
func TestMost(t *testing.T) {
	fronts := 0
	each(t, 5, 1500, func(_ *rand.Rand, x task) {
		m, e := flow.Most(x.n, x.used, x.d)
		if e != api.OK || !isIn(m, 0, all) || x.d.From == x.d.To && m != all {
			t.Fatal("P16.2: Most of", x, m, e)
		}
		for _, bytes := range []int{1, 2, m + 1, all} {
			y := x
			y.d.Bytes = min(bytes, all)
			if other, e := flow.Most(y.n, y.used, y.d); other != m || e != api.OK {
				t.Fatal("P16.2: Most of", x, m, "but with other Bytes", y.d, other, e)
			}
		}
		if x.d.Bytes = m; m == 0 {
			x.d.Bytes = 1
		}
		l, e := flow.Cheapest(x.n, x.used, x.d)
		if m > 0 && (e != api.OK || net.Serves(x.n, l, x.d) != api.OK || !possible(x, l)) {
			t.Fatal("P16.2: Most of", x, m, "but Cheapest", l, e)
		}
		if m == all {
			return
		}
		fronts++
		f := front(x, l)
		if sum := barrier(x.n, between(x), f); sum != m || f[x.d.From] != x.d.Ready || f[x.d.To] <= x.d.Due {
			t.Fatal("P16.2: Most of", x, m, "but only", sum, "stop at the front", f)
		}
	})
	if fronts < 1000 {
		t.Error("too few fronts", fronts)
	}
}

// TestNewMemory changes results, and checks that neither the arguments nor later results change.
func TestNewMemory(t *testing.T) {
	each(t, 6, 300, func(_ *rand.Rand, x task) {
		l, e := flow.Cheapest(x.n, x.used, x.d)
		before := slices.Clone(l)
		for k := range l {
			l[k] = send(-7, -7, -7)
		}
		for k := range l[len(l):cap(l)] {
			l[len(l):cap(l)][k] = send(-8, -8, -8)
		}
		if again, f := flow.Cheapest(x.n, x.used, x.d); !slices.Equal(again, before) || f != e {
			t.Fatal("chapter 16: Cheapest of", x, before, e, "and then", again, f)
		}
	})
}

// TestAnyNumbers calls all functions with any numbers, and checks that they return.
func TestAnyNumbers(t *testing.T) {
	r := rand.New(rand.NewSource(7))
	any := func() int { return someNumbers[r.Intn(len(someNumbers))] }
	for range 3000 {
		x := task{n: api.Net{Houses: 1 + r.Intn(12), Links: make([]api.Link, r.Intn(62))}, used: make([]api.Send, r.Intn(4))}
		if r.Intn(3) == 0 {
			x.n.Houses = any()
		}
		for k := range x.n.Links {
			x.n.Links[k] = link(r.Intn(12), r.Intn(12), any(), any())
		}
		for k := range x.used {
			x.used[k] = send(any(), any(), any())
		}
		x.d = api.Demand{From: any(), To: any(), Bytes: any(), Ready: any(), Due: any()}
		if want := wantCheck(x); want != api.OK {
			checkError(t, "any numbers", x, want)
		}
	}
}
