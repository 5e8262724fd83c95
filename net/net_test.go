package net_test

import (
	"math"
	"math/rand"
	"slices"
	"testing"

	"quietus/api"
	"quietus/net"
)

// TestExamples checks the examples of the chapter.
func TestExamples(t *testing.T) {
	x := example()
	if e := net.Serves(x.n, x.l, x.d); e != api.OK {
		t.Error("P15.6: Serves", e)
	}
	if cost, e := net.Cost(x.n, x.l); cost != 420 || e != api.OK {
		t.Error("P15.3: Cost", cost, e)
	}
	if tick, e := net.Arrives(x.n, x.l, x.d); tick != 7 || e != api.OK {
		t.Error("P15.6: Arrives", tick, e)
	}
	for _, y := range []struct{ house, tick, want int }{{0, 6, 10}, {1, 6, 100}, {2, 6, 10}, {2, 7, 120}} {
		if stock, e := net.Stock(x.n, x.l, x.d, y.house, y.tick); stock != y.want || e != api.OK {
			t.Error("P15.5: Stock", y, stock, e)
		}
	}
	for _, y := range []struct {
		name string
		l    []api.Send
		want api.Errno
	}{
		{"a send that is too early", []api.Send{send(0, 5, 100), send(1, 5, 100), send(2, 5, 10), send(2, 6, 10)}, api.ErrState},
		{"the last send left out", x.l[:3], api.ErrLate},
		{"11 bytes", append(x.l[:3:3], send(2, 6, 11)), api.ErrFull},
	} {
		if e := net.Serves(x.n, y.l, x.d); e != y.want {
			t.Error("P15.6: Serves with", y.name, e)
		}
		if tick, e := net.Arrives(x.n, y.l, x.d); tick != 0 || e != y.want {
			t.Error("P15.6: Arrives with", y.name, tick, e)
		}
	}
	for tick, want := range map[int]int{5: 0, 29: 100} {
		if left, e := net.Left(x.n, x.l, 0, tick); left != want || e != api.OK {
			t.Error("P15.3: Left at", tick, left, e)
		}
	}
	l, e := net.Join(x.n, [][]api.Send{x.l, x.l})
	if !slices.Equal(l, []api.Send{send(0, 5, 200), send(2, 5, 20), send(1, 6, 200), send(2, 6, 20)}) || e != api.OK {
		t.Error("P15.4: Join", l, e)
	}
	if e := net.Fits(x.n, l); e != api.ErrFull {
		t.Error("P15.3: Fits", e)
	}
}

// checkFirst calls all functions with a net and a schedule, and checks that each returns an error, and nothing else but it, whatever the other arguments are.
func checkFirst(t *testing.T, name string, n api.Net, l []api.Send, want api.Errno) {
	t.Helper()
	bad := api.Demand{From: -1, To: 99, Ready: -5, Due: -9}
	twice := append(slices.Clone(l), l...) // not in order, or too many sends, if not empty
	for _, d := range []api.Demand{example().d, bad} {
		for _, k := range []int{0, -1, 99, math.MaxInt} {
			cost, e0 := net.Cost(n, l)
			left, e1 := net.Left(n, l, k, k)
			joined, e2 := net.Join(n, [][]api.Send{l, twice})
			stock, e3 := net.Stock(n, l, d, k, k)
			tick, e4 := net.Arrives(n, l, d)
			e5, e6 := net.Fits(n, l), net.Serves(n, l, d)
			e7, e8 := net.Shared(n, [][]api.Send{l}, []api.Demand{d}), net.Shared(n, [][]api.Send{nil, l, twice}, nil)
			for f, e := range []api.Errno{e0, e1, e2, e3, e4, e5, e6, e7, e8} {
				if e != want {
					t.Error("P15.2: function", f, "with", name, k, d, e, "and not", want)
				}
			}
			if cost != 0 || left != 0 || len(joined) > 0 || stock != 0 || tick != 0 {
				t.Error("P15.2: results with", name, cost, left, joined, stock, tick)
			}
		}
	}
}

// checkNet calls all functions with a net, and checks that each returns its error; api.OK stands for none.
func checkNet(t *testing.T, name string, n api.Net, want api.Errno) {
	t.Helper()
	if e := net.Check(n); e != want {
		t.Error("P15.1: Check of", name, e, "and not", want)
	}
	for _, l := range [][]api.Send{nil, {send(0, 0, 1)}, {send(-1, -1, -1)}, make([]api.Send, 2001)} {
		if want == api.OK {
			break
		}
		if e := net.Right(n, l); e != want {
			t.Error("P15.2: Right with", name, e, "and not", want)
		}
		checkFirst(t, name, n, l, want)
	}
	if l, e := net.Join(n, nil); len(l) > 0 || e != want {
		t.Error("P15.4: Join without schedules, with", name, l, e, "and not", want)
	}
	if e := net.Shared(n, nil, nil); e != want {
		t.Error("P15.7: Shared without schedules, with", name, e, "and not", want)
	}
}

// TestCheck checks each error of a net, alone and together with later ones, and nets that are just right.
func TestCheck(t *testing.T) {
	first := func(change func(k *api.Link)) func(n *api.Net) {
		return func(n *api.Net) { change(&n.Links[0]) }
	}
	later := func(change func(k *api.Link)) func(n *api.Net) {
		return func(n *api.Net) { change(&n.Links[2]) }
	}
	for _, x := range []struct {
		name   string
		change func(n *api.Net)
		want   api.Errno
	}{
		{"the example", func(n *api.Net) {}, api.OK},
		{"the zero value", func(n *api.Net) { *n = api.Net{} }, api.ErrLimit},
		{"no houses", func(n *api.Net) { n.Houses = 0 }, api.ErrLimit},
		{"a negative number of houses", func(n *api.Net) { n.Houses = -1 }, api.ErrLimit},
		{"the least number of houses", func(n *api.Net) { n.Houses = math.MinInt }, api.ErrLimit},
		{"one house", func(n *api.Net) { *n = api.Net{Houses: 1} }, api.OK},
		{"one house, with a link", func(n *api.Net) { *n = api.Net{Houses: 1, Links: []api.Link{link(0, 0, 1, 1)}} }, api.ErrArg},
		{"12 houses", func(n *api.Net) { n.Houses = 12 }, api.OK},
		{"13 houses", func(n *api.Net) { n.Houses = 13 }, api.ErrLimit},
		{"the greatest number of houses", func(n *api.Net) { n.Houses = math.MaxInt }, api.ErrLimit},
		{"no links", func(n *api.Net) { n.Links = nil }, api.OK},
		{"60 links between two houses", func(n *api.Net) { n.Links = slices.Repeat(n.Links[:1], 60) }, api.OK},
		{"61 links", func(n *api.Net) { n.Links = slices.Repeat(n.Links[:1], 61) }, api.ErrLimit},
		{"61 links that are wrong", func(n *api.Net) { n.Links = make([]api.Link, 61) }, api.ErrLimit},
		{"too many houses, and a wrong link", func(n *api.Net) { n.Houses, n.Links[0].From = 13, -1 }, api.ErrLimit},
		{"the last of 60 links is wrong", func(n *api.Net) { n.Links = slices.Repeat(n.Links[:1], 60); n.Links[59].Cap[23] = -1 }, api.ErrRange},
		{"links in both directions", first(func(k *api.Link) { k.From, k.To = 1, 0 }), api.OK},
		{"a link from no house", first(func(k *api.Link) { k.From = -1 }), api.ErrArg},
		{"a link from the house 3 of 3", first(func(k *api.Link) { k.From = 3 }), api.ErrArg},
		{"a link from the last house", first(func(k *api.Link) { k.From = 2 }), api.OK},
		{"a link from the least number", first(func(k *api.Link) { k.From = math.MinInt }), api.ErrArg},
		{"a link to no house", first(func(k *api.Link) { k.To = -1 }), api.ErrArg},
		{"a link to the house 3 of 3", first(func(k *api.Link) { k.To = 3 }), api.ErrArg},
		{"a link to the last house", first(func(k *api.Link) { k.To = 2 }), api.OK},
		{"a link to the greatest number", first(func(k *api.Link) { k.To = math.MaxInt }), api.ErrArg},
		{"a link from a house to itself", first(func(k *api.Link) { k.To = 0 }), api.ErrArg},
		{"a wrong house, and a wrong capacity", first(func(k *api.Link) { k.From, k.Cap[0] = 9, -1 }), api.ErrArg},
		{"a link to itself, and a wrong price", first(func(k *api.Link) { k.To, k.Price[0] = 0, -1 }), api.ErrArg},
		{"a capacity of 0", first(func(k *api.Link) { k.Cap = [24]int{} }), api.OK},
		{"a price of 0", first(func(k *api.Link) { k.Price = [24]int{} }), api.OK},
		{"the greatest capacity", first(func(k *api.Link) { k.Cap[7] = 1 << 30 }), api.OK},
		{"the greatest price", first(func(k *api.Link) { k.Price[7] = 1000000 }), api.OK},
		{"a capacity that is too great", first(func(k *api.Link) { k.Cap[7] = 1<<30 + 1 }), api.ErrRange},
		{"a price that is too great", first(func(k *api.Link) { k.Price[7] = 1000001 }), api.ErrRange},
		{"a negative capacity at the first hour", first(func(k *api.Link) { k.Cap[0] = -1 }), api.ErrRange},
		{"a negative price at the first hour", first(func(k *api.Link) { k.Price[0] = -1 }), api.ErrRange},
		{"a negative capacity at the last hour", first(func(k *api.Link) { k.Cap[23] = -1 }), api.ErrRange},
		{"a negative price at the last hour", first(func(k *api.Link) { k.Price[23] = -1 }), api.ErrRange},
		{"the least number as a capacity", first(func(k *api.Link) { k.Cap[5] = math.MinInt }), api.ErrRange},
		{"the greatest number as a price", first(func(k *api.Link) { k.Price[5] = math.MaxInt }), api.ErrRange},
		{"a wrong price of a later link", later(func(k *api.Link) { k.Price[9] = -1 }), api.ErrRange},
		{"a wrong house of a later link", later(func(k *api.Link) { k.From = 3 }), api.ErrArg},
		{"a wrong house after a wrong capacity", func(n *api.Net) { n.Links[1].Cap[3], n.Links[2].To = -1, 3 }, api.ErrRange},
		{"a wrong capacity after a wrong house", func(n *api.Net) { n.Links[1].To, n.Links[2].Cap[3] = 3, -1 }, api.ErrArg},
	} {
		n := example().n
		x.change(&n)
		checkNet(t, x.name, n, x.want)
	}
}

// many are so many right sends over the links of the example.
func many(number int) []api.Send {
	var l []api.Send
	for k := range number {
		l = append(l, send(k%3, k/3, 1))
	}
	return l
}

// TestRight checks each error of a schedule, alone and together with later ones, and schedules that are just right.
func TestRight(t *testing.T) {
	n := example().n
	for _, x := range []struct {
		name string
		l    []api.Send
		want api.Errno
	}{
		{"the example", example().l, api.OK},
		{"no sends", nil, api.OK},
		{"an empty list", []api.Send{}, api.OK},
		{"2000 sends", many(2000), api.OK},
		{"2001 sends", many(2001), api.ErrLimit},
		{"2001 wrong sends", make([]api.Send, 2001), api.ErrLimit},
		{"the last of 2000 sends is wrong", append(many(1999), send(3, 999, 1)), api.ErrArg},
		{"the last of 2000 sends is too great", append(many(1999), send(2, 999, 1<<30+1)), api.ErrRange},
		{"a negative link", []api.Send{send(-1, 5, 5)}, api.ErrArg},
		{"the link 3 of 3", []api.Send{send(3, 5, 5)}, api.ErrArg},
		{"the last link", []api.Send{send(2, 5, 5)}, api.OK},
		{"the greatest number as a link", []api.Send{send(math.MaxInt, 5, 5)}, api.ErrArg},
		{"the least number as a link", []api.Send{send(math.MinInt, 5, 5)}, api.ErrArg},
		{"the first tick", []api.Send{send(0, 0, 5)}, api.OK},
		{"a negative tick", []api.Send{send(0, -1, 5)}, api.ErrRange},
		{"the least number as a tick", []api.Send{send(0, math.MinInt, 5)}, api.ErrRange},
		{"the last tick but one", []api.Send{send(0, 999999, 5)}, api.OK},
		{"the last tick", []api.Send{send(0, 1000000, 5)}, api.ErrRange},
		{"the greatest number as a tick", []api.Send{send(0, math.MaxInt, 5)}, api.ErrRange},
		{"one byte", []api.Send{send(0, 5, 1)}, api.OK},
		{"no bytes", []api.Send{send(0, 5, 0)}, api.ErrRange},
		{"a negative number of bytes", []api.Send{send(0, 5, -1)}, api.ErrRange},
		{"the greatest number of bytes", []api.Send{send(0, 5, 1<<30)}, api.OK},
		{"too many bytes", []api.Send{send(0, 5, 1<<30+1)}, api.ErrRange},
		{"more bytes than the capacity", []api.Send{send(2, 5, 11)}, api.OK},
		{"a wrong link, and a wrong tick", []api.Send{send(3, -1, 5)}, api.ErrArg},
		{"a wrong link, and no bytes", []api.Send{send(-1, 5, 0)}, api.ErrArg},
		{"a link twice in a tick", []api.Send{send(1, 5, 5), send(1, 5, 6)}, api.ErrArg},
		{"a send twice", []api.Send{send(1, 5, 5), send(1, 5, 5)}, api.ErrArg},
		{"a link twice, at an hour of two days", []api.Send{send(1, 5, 5), send(1, 29, 5)}, api.OK},
		{"an earlier link", []api.Send{send(1, 5, 5), send(0, 5, 5)}, api.ErrArg},
		{"a later link", []api.Send{send(0, 5, 5), send(1, 5, 5)}, api.OK},
		{"an earlier link in a later tick", []api.Send{send(1, 5, 5), send(0, 6, 5)}, api.OK},
		{"a later link in an earlier tick", []api.Send{send(0, 6, 5), send(1, 5, 5)}, api.ErrArg},
		{"a tick before the first one", []api.Send{send(0, 6, 5), send(0, 9, 5), send(0, 7, 5)}, api.ErrArg},
		{"a wrong tick in a wrong order", []api.Send{send(0, 0, 5), send(0, -1, 5)}, api.ErrRange},
		{"no bytes in a wrong order", []api.Send{send(0, 6, 5), send(0, 5, 0)}, api.ErrRange},
		{"no bytes after a wrong order", []api.Send{send(0, 6, 5), send(0, 5, 5), send(0, 7, 0)}, api.ErrArg},
		{"a wrong order after no bytes", []api.Send{send(0, 6, 0), send(0, 5, 5)}, api.ErrRange},
		{"a wrong link after no bytes", []api.Send{send(0, 6, 0), send(9, 7, 5)}, api.ErrRange},
	} {
		if e := net.Right(n, x.l); e != x.want {
			t.Error("P15.2: Right of", x.name, e, "and not", x.want)
		}
		if x.want != api.OK {
			checkFirst(t, x.name, n, x.l, x.want)
		}
	}
	if e := net.Right(api.Net{Houses: 3}, []api.Send{send(0, 5, 5)}); e != api.ErrArg {
		t.Error("P15.2: Right without links", e)
	}
}

// TestCapacities compares Fits, Cost and Left with what the chapter says.
func TestCapacities(t *testing.T) {
	seen := map[api.Errno]int{}
	each(t, 1, 2000, func(r *rand.Rand, x task) {
		if r.Intn(2) == 0 {
			x.l = anySchedule(r, x.n, r.Intn(20), r.Intn(100), 1+r.Intn(60), 30)
		}
		e := net.Fits(x.n, x.l)
		if want := wantFits(x.n, x.l); e != want {
			t.Fatal("P15.3: Fits of", x, e, "and not", want)
		}
		seen[e]++
		cost, e := net.Cost(x.n, x.l)
		if want, wantE := wantCost(x.n, x.l); cost != want || e != wantE {
			t.Fatal("P15.3: Cost of", x, cost, e, "and not", want, wantE)
		}
		for range 20 {
			link, tick := r.Intn(len(x.n.Links)+2)-1, r.Intn(150)-1
			if k := len(x.l); k > 0 && r.Intn(2) == 0 {
				s := x.l[r.Intn(k)]
				link, tick = s.Link, s.Tick+24*r.Intn(2)
			}
			left, e := net.Left(x.n, x.l, link, tick)
			if want, wantE := wantLeft(x.n, x.l, link, tick); left != want || e != wantE {
				t.Fatal("P15.3: Left of", x, link, tick, left, e, "and not", want, wantE)
			}
		}
	})
	enough(t, seen, 500, api.OK, api.ErrFull)
}

// hourly is a link whose capacity and price are different at each hour.
func hourly() api.Link {
	k := api.Link{From: 0, To: 1}
	for h := range 24 {
		k.Cap[h], k.Price[h] = 100+h, 1000+h*h
	}
	return k
}

// TestHours checks that capacity and price are those of the hour of the tick.
func TestHours(t *testing.T) {
	n := api.Net{Houses: 2, Links: []api.Link{link(1, 0, 7, 7), hourly()}}
	for _, tick := range []int{0, 1, 22, 23, 24, 25, 47, 48, 999983, 999984, 999998, 999999} {
		h := tick % 24
		if e := net.Fits(n, []api.Send{send(1, tick, 100+h)}); e != api.OK {
			t.Error("P15.3: Fits at the tick", tick, e)
		}
		l := []api.Send{send(1, tick, 101+h)}
		if e := net.Fits(n, l); e != api.ErrFull {
			t.Error("P15.3: Fits of a byte more at the tick", tick, e)
		}
		if left, e := net.Left(n, l, 1, tick); left != -1 || e != api.OK {
			t.Error("P15.3: Left at the tick", tick, left, e)
		}
		if left, e := net.Left(n, nil, 1, tick); left != 100+h || e != api.OK {
			t.Error("P15.3: Left without sends at the tick", tick, left, e)
		}
		if cost, e := net.Cost(n, l); cost != (101+h)*(1000+h*h) || e != api.OK {
			t.Error("P15.3: Cost at the tick", tick, cost, e)
		}
	}
}

// TestLeftErrors checks all pairs of numbers, most of which are no links and no ticks.
func TestLeftErrors(t *testing.T) {
	x := example()
	for _, k := range someNumbers {
		for _, tick := range someNumbers {
			left, e := net.Left(x.n, x.l, k, tick)
			if want, wantE := wantLeft(x.n, x.l, k, tick); left != want || e != wantE {
				t.Error("P15.3: Left of", k, tick, left, e, "and not", want, wantE)
			}
		}
	}
}

// TestGreatCost checks the greatest cost that a schedule can have.
func TestGreatCost(t *testing.T) {
	n := api.Net{Houses: 2, Links: []api.Link{link(0, 1, 0, 1000000), link(1, 0, 0, 1000000)}}
	var l []api.Send
	for k := range 2000 {
		l = append(l, send(k%2, k/2, 1<<30))
	}
	if cost, e := net.Cost(n, l); cost != 2000*(1<<30)*1000000 || e != api.OK {
		t.Error("P15.3: Cost of the greatest sends", cost, e)
	}
	if left, e := net.Left(n, l, 1, 999); left != -1<<30 || e != api.OK {
		t.Error("P15.3: Left of the greatest sends", left, e)
	}
}

// someSchedules are schedules of which each is right for a net, and which often send over the same links in the same ticks.
func someSchedules(r *rand.Rand, n api.Net, number, bytes int) [][]api.Send {
	ls := make([][]api.Send, number)
	from := r.Intn(100)
	for k := range ls {
		ls[k] = anySchedule(r, n, r.Intn(12), from, 1+r.Intn(20), bytes)
	}
	return ls
}

// TestJoin compares Join with what the chapter says.
func TestJoin(t *testing.T) {
	r := rand.New(rand.NewSource(2))
	seen := map[api.Errno]int{}
	for range 5000 {
		houses := 1 + r.Intn(6)
		n := anyNet(r, houses, houses+r.Intn(4), 50)
		ls := someSchedules(r, n, r.Intn(6), []int{20, most}[r.Intn(2)])
		if len(ls) > 0 && r.Intn(8) == 0 {
			if l := ls[r.Intn(len(ls))]; len(l) > 0 {
				l[r.Intn(len(l))] = send(r.Intn(12)-1, r.Intn(120)-1, r.Intn(20))
			}
		}
		l, e := net.Join(n, ls)
		if want, wantE := wantJoin(n, ls); !slices.Equal(l, want) || e != wantE {
			t.Fatal("P15.4: Join of", n.Houses, len(n.Links), ls, l, e, "and not", want, wantE)
		}
		if e == api.OK && net.Right(n, l) != api.OK {
			t.Fatal("P15.4: Join of", ls, "is not right", l)
		}
		seen[e]++
	}
	enough(t, seen, 50, api.OK, api.ErrArg, api.ErrRange)
}

// TestJoinErrors checks each error of Join, alone and together with later ones, and schedules that can just be joined.
func TestJoinErrors(t *testing.T) {
	n := example().n
	full := []api.Send{send(0, 5, 1<<30)}
	odd := make([]api.Send, 1000)
	for k := range odd {
		odd[k] = send(1, 2*k, 1)
	}
	other := []api.Send{send(0, 2000, 1)}
	for _, x := range []struct {
		name string
		ls   [][]api.Send
		want api.Errno
	}{
		{"no schedules", nil, api.OK},
		{"an empty list of schedules", [][]api.Send{}, api.OK},
		{"empty schedules", make([][]api.Send, 5), api.OK},
		{"2000 sends", [][]api.Send{many(2000)}, api.OK},
		{"2000 sends and some of them once more", [][]api.Send{many(2000), many(1500), many(2000)}, api.OK},
		{"2000 sends and another one", [][]api.Send{many(2000), other}, api.ErrLimit},
		{"1999 sends and another one", [][]api.Send{many(1999), other}, api.OK},
		{"1999 sends and another one, twice", [][]api.Send{many(1999), other, other}, api.OK},
		{"1000 sends and others", [][]api.Send{odd, many(1000)}, api.OK},
		{"the greatest number of bytes", [][]api.Send{{send(0, 5, 1<<30-1)}, {send(0, 5, 1)}}, api.OK},
		{"a byte more than it", [][]api.Send{full, {send(0, 5, 1)}}, api.ErrRange},
		{"the same over another link", [][]api.Send{full, {send(1, 5, 1)}}, api.OK},
		{"the same in another tick", [][]api.Send{full, {send(0, 29, 1)}}, api.OK},
		{"the greatest number of bytes many times", slices.Repeat([][]api.Send{full}, 1000), api.ErrRange},
		{"too many sends, and too many bytes", [][]api.Send{full, full, many(2000), other}, api.ErrLimit},
		{"too many bytes, and then an error", [][]api.Send{full, full, {send(3, 5, 1)}}, api.ErrArg},
		{"too many sends, and then an error", [][]api.Send{many(2000), other, {send(0, 5, 0)}}, api.ErrRange},
		{"two errors", [][]api.Send{nil, {send(0, 5, 0)}, {send(3, 5, 1)}}, api.ErrRange},
		{"two errors in another order", [][]api.Send{{send(3, 5, 1)}, {send(0, 5, 0)}}, api.ErrArg},
		{"a schedule that is too long at the end", [][]api.Send{{send(3, 5, 1)}, many(2001)}, api.ErrArg},
		{"a schedule that is too long at the beginning", [][]api.Send{many(2001), {send(3, 5, 1)}}, api.ErrLimit},
	} {
		l, e := net.Join(n, x.ls)
		if want, wantE := wantJoin(n, x.ls); e != x.want || wantE != x.want || !slices.Equal(l, want) {
			t.Error("P15.4: Join of", x.name, len(l), e, "and not", x.want)
		}
	}
}

// TestStock compares Stock with what the chapter says, in all houses and at all ticks around those of the schedule.
func TestStock(t *testing.T) {
	negative := 0
	each(t, 3, 300, func(r *rand.Rand, x task) {
		if r.Intn(3) == 0 {
			x.l = anySchedule(r, x.n, r.Intn(20), r.Intn(40), 1+r.Intn(60), 30)
		}
		for house := -1; house <= x.n.Houses; house++ {
			for _, tick := range []int{-1, 0, x.d.Ready - 1, x.d.Ready, x.d.Ready + r.Intn(10), x.d.Due, r.Intn(150), end, end + 1} {
				stock, e := net.Stock(x.n, x.l, x.d, house, tick)
				if want, wantE := wantStock(x.n, x.l, x.d, house, tick); stock != want || e != wantE {
					t.Fatal("P15.5: Stock of", x, house, tick, stock, e, "and not", want, wantE)
				}
				if stock < 0 {
					negative++
				}
			}
		}
	})
	if negative < 500 {
		t.Error("too few negative stocks", negative)
	}
}

// TestStockEdges checks the ticks around a send, the first and the last tick, and a demand from a house to itself.
func TestStockEdges(t *testing.T) {
	n := example().n
	d := api.Demand{From: 0, To: 2, Bytes: 1 << 40, Ready: 7, Due: end}
	l := []api.Send{send(0, 0, 1), send(0, 7, 30), send(2, 7, 5), send(1, 8, 50), send(0, end-1, 1<<30)}
	for _, x := range []struct{ house, tick, want int }{
		{0, 0, 0}, {0, 1, -1}, {0, 6, -1}, {0, 7, 1<<40 - 1}, {0, 8, 1<<40 - 36}, {0, end - 1, 1<<40 - 36}, {0, end, 1<<40 - 36 - 1<<30},
		{1, 0, 0}, {1, 1, 1}, {1, 7, 1}, {1, 8, 31}, {1, 9, -19}, {1, end - 1, -19}, {1, end, 1<<30 - 19},
		{2, 0, 0}, {2, 7, 0}, {2, 8, 5}, {2, 9, 55}, {2, end, 55},
	} {
		if stock, e := net.Stock(n, l, d, x.house, x.tick); stock != x.want || e != api.OK {
			t.Error("P15.5: Stock of", x, stock, e)
		}
	}
	d = api.Demand{From: 1, To: 1, Bytes: 9, Ready: end, Due: end}
	for tick, want := range map[int]int{0: 0, end - 1: 0, end: 9} {
		if stock, e := net.Stock(n, nil, d, 1, tick); stock != want || e != api.OK {
			t.Error("P15.5: Stock of a demand at the end, at", tick, stock, e)
		}
	}
}

// TestDemands checks what a right demand is.
func TestDemands(t *testing.T) {
	for _, x := range []struct {
		name string
		d    api.Demand
		ok   bool
	}{
		{"the example", example().d, true},
		{"the zero value", api.Demand{}, false},
		{"from no house", api.Demand{From: -1, To: 2, Bytes: 5, Ready: 5, Due: 8}, false},
		{"from the house 3 of 3", api.Demand{From: 3, To: 2, Bytes: 5, Ready: 5, Due: 8}, false},
		{"to no house", api.Demand{From: 0, To: -1, Bytes: 5, Ready: 5, Due: 8}, false},
		{"to the house 3 of 3", api.Demand{From: 0, To: 3, Bytes: 5, Ready: 5, Due: 8}, false},
		{"from a house to itself", api.Demand{From: 2, To: 2, Bytes: 5, Ready: 5, Due: 8}, true},
		{"no bytes", api.Demand{From: 0, To: 2, Bytes: 0, Ready: 5, Due: 8}, false},
		{"a negative number of bytes", api.Demand{From: 0, To: 2, Bytes: -1, Ready: 5, Due: 8}, false},
		{"the greatest number of bytes", api.Demand{From: 0, To: 2, Bytes: 1 << 40, Ready: 5, Due: 8}, true},
		{"too many bytes", api.Demand{From: 0, To: 2, Bytes: 1<<40 + 1, Ready: 5, Due: 8}, false},
		{"the first tick", api.Demand{From: 0, To: 2, Bytes: 5}, true},
		{"a negative tick", api.Demand{From: 0, To: 2, Bytes: 5, Ready: -1, Due: 8}, false},
		{"only negative ticks", api.Demand{From: 0, To: 2, Bytes: 5, Ready: -2, Due: -1}, false},
		{"the last tick", api.Demand{From: 0, To: 2, Bytes: 5, Ready: end, Due: end}, true},
		{"a tick after the last one", api.Demand{From: 0, To: 2, Bytes: 5, Ready: 5, Due: end + 1}, false},
		{"only ticks after the last one", api.Demand{From: 0, To: 2, Bytes: 5, Ready: end + 1, Due: end + 1}, false},
		{"all ticks", api.Demand{From: 0, To: 2, Bytes: 5, Ready: 0, Due: end}, true},
		{"one tick", api.Demand{From: 0, To: 2, Bytes: 5, Ready: 8, Due: 8}, true},
		{"due before it is ready", api.Demand{From: 0, To: 2, Bytes: 5, Ready: 8, Due: 7}, false},
		{"all numbers as ticks", api.Demand{From: 0, To: 2, Bytes: 5, Ready: math.MinInt, Due: math.MaxInt}, false},
		{"the greatest numbers", api.Demand{From: math.MaxInt, To: math.MaxInt, Bytes: math.MaxInt, Ready: math.MaxInt, Due: math.MaxInt}, false},
	} {
		n := example().n
		late, full := api.ErrArg, api.ErrArg
		want := api.ErrArg
		if x.ok {
			late, full, want = api.ErrLate, api.ErrFull, api.OK
			if x.d.From == x.d.To {
				late = api.OK
			}
		}
		if stock, e := net.Stock(n, nil, x.d, 1, 1); stock != 0 || e != want {
			t.Error("P15.5: Stock with a demand", x.name, stock, e)
		}
		if e := net.Serves(n, nil, x.d); e != late {
			t.Error("P15.6: Serves with a demand", x.name, e)
		}
		if e := net.Shared(n, make([][]api.Send, 1), []api.Demand{x.d}); e != late {
			t.Error("P15.7: Shared with a demand", x.name, e)
		}
		// What is sent is too much for the link, and more than there is.
		l := []api.Send{send(2, 3, 11)}
		if e := net.Serves(n, l, x.d); e != full {
			t.Error("P15.6: Serves with too much, and a demand", x.name, e)
		}
		if tick, e := net.Arrives(n, l, x.d); tick != 0 || e != full {
			t.Error("P15.6: Arrives with too much, and a demand", x.name, tick, e)
		}
	}
}

// TestServes compares Serves and Arrives with what the chapter says.
func TestServes(t *testing.T) {
	seen := map[api.Errno]int{}
	each(t, 4, 6000, func(_ *rand.Rand, x task) {
		e, want := net.Serves(x.n, x.l, x.d), wantServes(x)
		if e != want {
			t.Fatal("P15.6: Serves of", x.l, x.d, e, "and not", want, x.n)
		}
		tick, e := net.Arrives(x.n, x.l, x.d)
		if wantTick, wantE := wantArrives(x); tick != wantTick || e != wantE {
			t.Fatal("P15.6: Arrives of", x.l, x.d, tick, e, "and not", wantTick, wantE, x.n)
		}
		seen[e]++
	})
	enough(t, seen, 100, api.OK, api.ErrArg, api.ErrRange, api.ErrState, api.ErrFull, api.ErrLate)
}

// TestServesMade checks that schedules that were made to serve do so.
func TestServesMade(t *testing.T) {
	r := rand.New(rand.NewSource(5))
	for range 2000 {
		for _, x := range []task{small(r), great(r)} {
			if e := net.Serves(x.n, x.l, x.d); e != api.OK {
				t.Fatal("P15.6: Serves of", x, e)
			}
		}
	}
}

// TestServesEdges checks each error of Serves, alone and together with later ones, and what is just possible.
func TestServesEdges(t *testing.T) {
	ring := api.Net{Houses: 3, Links: []api.Link{link(0, 1, 100, 1), link(1, 2, 100, 1), link(2, 0, 100, 1), link(0, 1, 100, 1), link(2, 1, 100, 1)}}
	for _, x := range []struct {
		name    string
		l       []api.Send
		d       api.Demand
		want    api.Errno
		arrives int
	}{
		{"to itself, without sends", nil, api.Demand{From: 1, To: 1, Bytes: 50, Ready: 5, Due: 9}, api.OK, 5},
		{"to itself, without time", nil, api.Demand{From: 1, To: 1, Bytes: 50, Ready: 5, Due: 5}, api.OK, 5},
		{"to itself, there and back", []api.Send{send(1, 5, 50), send(4, 6, 50)}, api.Demand{From: 1, To: 1, Bytes: 50, Ready: 5, Due: 7}, api.OK, 5},
		{"to itself, back too late", []api.Send{send(1, 5, 50), send(4, 6, 50)}, api.Demand{From: 1, To: 1, Bytes: 50, Ready: 5, Due: 6}, api.ErrLate, 0},
		{"to itself, a byte not back", []api.Send{send(1, 5, 50), send(4, 6, 49)}, api.Demand{From: 1, To: 1, Bytes: 50, Ready: 5, Due: 9}, api.ErrLate, 0},
		{"without time", []api.Send{send(0, 5, 50)}, api.Demand{From: 0, To: 1, Bytes: 50, Ready: 5, Due: 5}, api.ErrLate, 0},
		{"in one tick", []api.Send{send(0, 5, 50)}, api.Demand{From: 0, To: 1, Bytes: 50, Ready: 5, Due: 6}, api.OK, 6},
		{"at the end", []api.Send{send(0, end-1, 50)}, api.Demand{From: 0, To: 1, Bytes: 50, Ready: 0, Due: end}, api.OK, end},
		{"at the beginning", []api.Send{send(0, 0, 50)}, api.Demand{From: 0, To: 1, Bytes: 50, Ready: 0, Due: end}, api.OK, 1},
		{"before it is ready", []api.Send{send(0, 4, 50)}, api.Demand{From: 0, To: 1, Bytes: 50, Ready: 5, Due: 6}, api.ErrState, 0},
		{"one byte before it is ready", []api.Send{send(0, 4, 1), send(0, 5, 50)}, api.Demand{From: 0, To: 1, Bytes: 50, Ready: 5, Due: 6}, api.ErrState, 0},
		{"before it is ready, from another house", []api.Send{send(4, 4, 1), send(0, 5, 50)}, api.Demand{From: 0, To: 1, Bytes: 50, Ready: 5, Due: 6}, api.ErrState, 0},
		{"a byte too few", []api.Send{send(0, 5, 49)}, api.Demand{From: 0, To: 1, Bytes: 50, Ready: 5, Due: 6}, api.ErrLate, 0},
		{"a byte too many", []api.Send{send(0, 5, 51)}, api.Demand{From: 0, To: 1, Bytes: 50, Ready: 5, Due: 6}, api.ErrState, 0},
		{"two links between two houses", []api.Send{send(0, 5, 20), send(3, 5, 30)}, api.Demand{From: 0, To: 1, Bytes: 50, Ready: 5, Due: 6}, api.OK, 6},
		{"a byte too many over two links", []api.Send{send(0, 5, 20), send(3, 5, 31)}, api.Demand{From: 0, To: 1, Bytes: 50, Ready: 5, Due: 6}, api.ErrState, 0},
		{"a full link", []api.Send{send(0, 5, 100)}, api.Demand{From: 0, To: 1, Bytes: 100, Ready: 5, Due: 6}, api.OK, 6},
		{"a byte more than a link carries", []api.Send{send(0, 5, 101)}, api.Demand{From: 0, To: 1, Bytes: 101, Ready: 5, Due: 6}, api.ErrFull, 0},
		{"the same, sent too late", []api.Send{send(0, 7, 101)}, api.Demand{From: 0, To: 1, Bytes: 101, Ready: 5, Due: 6}, api.ErrFull, 0},
		{"too much for a link, after a house had too little", []api.Send{send(0, 4, 1), send(0, 5, 101)}, api.Demand{From: 0, To: 1, Bytes: 101, Ready: 5, Due: 6}, api.ErrFull, 0},
		{"bytes that arrive in the tick in which they are sent on", []api.Send{send(0, 5, 50), send(1, 5, 50)}, api.Demand{From: 0, To: 2, Bytes: 50, Ready: 5, Due: 9}, api.ErrState, 0},
		{"bytes that are sent on a tick later", []api.Send{send(0, 5, 50), send(1, 6, 50)}, api.Demand{From: 0, To: 2, Bytes: 50, Ready: 5, Due: 9}, api.OK, 7},
		{"bytes that wait on the way", []api.Send{send(0, 5, 50), send(1, 8, 50)}, api.Demand{From: 0, To: 2, Bytes: 50, Ready: 5, Due: 9}, api.OK, 9},
		{"bytes that wait too long on the way", []api.Send{send(0, 5, 50), send(1, 9, 50)}, api.Demand{From: 0, To: 2, Bytes: 50, Ready: 5, Due: 9}, api.ErrLate, 0},
		{"a house that sends more than it got", []api.Send{send(0, 5, 40), send(1, 6, 41)}, api.Demand{From: 0, To: 2, Bytes: 50, Ready: 5, Due: 9}, api.ErrState, 0},
		{"bytes that go on after Due", []api.Send{send(0, 5, 50), send(1, 6, 50)}, api.Demand{From: 0, To: 1, Bytes: 50, Ready: 5, Due: 6}, api.OK, 6},
		{"bytes that go on before Due", []api.Send{send(0, 5, 50), send(1, 6, 50)}, api.Demand{From: 0, To: 1, Bytes: 50, Ready: 5, Due: 7}, api.ErrLate, 0},
		{"too many bytes after Due", []api.Send{send(0, 5, 50), send(1, 6, 51)}, api.Demand{From: 0, To: 1, Bytes: 50, Ready: 5, Due: 6}, api.ErrState, 0},
		{"bytes that come back after Due", []api.Send{send(0, 5, 50), send(1, 6, 50), send(4, 7, 50), send(1, 8, 50)}, api.Demand{From: 0, To: 1, Bytes: 50, Ready: 5, Due: 6}, api.OK, 6},
		{"bytes that leave and come back before Due", []api.Send{send(0, 5, 50), send(1, 6, 50), send(4, 7, 50)}, api.Demand{From: 0, To: 1, Bytes: 50, Ready: 5, Due: 9}, api.OK, 6},
		{"bytes that are sent around, and never there together before", []api.Send{send(0, 5, 50), send(0, 6, 40), send(1, 6, 40), send(4, 7, 40), send(0, 8, 10)}, api.Demand{From: 0, To: 1, Bytes: 100, Ready: 5, Due: 9}, api.OK, 9},
		{"bytes that leave in the tick in which the last ones come", []api.Send{send(0, 5, 50), send(0, 6, 50), send(1, 6, 10), send(4, 7, 10)}, api.Demand{From: 0, To: 1, Bytes: 100, Ready: 5, Due: 9}, api.OK, 8},
		{"nothing is sent", nil, api.Demand{From: 0, To: 1, Bytes: 1, Ready: 5, Due: 9}, api.ErrLate, 0},
	} {
		if e := net.Serves(ring, x.l, x.d); e != x.want {
			t.Error("P15.6: Serves of", x.name, e, "and not", x.want)
		}
		if tick, e := net.Arrives(ring, x.l, x.d); tick != x.arrives || e != x.want {
			t.Error("P15.6: Arrives of", x.name, tick, e, "and not", x.arrives, x.want)
		}
	}
}

// TestGreatDemand checks the greatest schedule, which brings 2000 sends over 60 links.
func TestGreatDemand(t *testing.T) {
	n := api.Net{Houses: 12, Links: slices.Repeat([]api.Link{link(11, 3, 1<<30, 1000000)}, 60)}
	var l []api.Send
	for k := range 2000 {
		l = append(l, send(k%60, end-40+k/60, 1<<29))
	}
	d := api.Demand{From: 11, To: 3, Bytes: 2000 << 29, Ready: 0, Due: end}
	if tick, e := net.Arrives(n, l, d); tick != end-40+34 || e != api.OK {
		t.Error("P15.6: Arrives of the greatest schedule", tick, e)
	}
	d.Bytes--
	if e := net.Serves(n, l, d); e != api.ErrState {
		t.Error("P15.6: Serves of the greatest schedule, with a byte less", e)
	}
	d.Bytes += 2
	if e := net.Serves(n, l, d); e != api.ErrLate {
		t.Error("P15.6: Serves of the greatest schedule, with a byte more", e)
	}
}

// shared are several tasks on one net, whose schedules serve their demands.
func shared(r *rand.Rand) (n api.Net, ls [][]api.Send, ds []api.Demand) {
	first := small(r)
	n, ls, ds = first.n, [][]api.Send{first.l}, []api.Demand{first.d}
	for range r.Intn(4) {
		d := api.Demand{From: r.Intn(n.Houses), To: r.Intn(n.Houses), Ready: r.Intn(60)}
		d.Due = d.Ready + distances(n, d.To)[d.From] + r.Intn(10)
		p := places{}
		for range 1 + r.Intn(3) {
			some := 1 + r.Intn(10)
			d.Bytes += some
			wander(r, n, d, some, p)
		}
		ls, ds = append(ls, p.schedule()), append(ds, d)
	}
	l, _ := wantJoin(n, ls)
	for _, s := range l {
		c := &n.Links[s.Link].Cap[s.Tick%24]
		*c = max(*c, s.Bytes)
	}
	return n, ls, ds
}

// TestShared compares Shared with what the chapter says.
func TestShared(t *testing.T) {
	r := rand.New(rand.NewSource(6))
	seen := map[api.Errno]int{}
	for range 6000 {
		n, ls, ds := shared(r)
		if e := net.Shared(n, ls, ds); e != api.OK {
			t.Fatal("P15.7: Shared of", n, ls, ds, e)
		}
		for range 1 + r.Intn(3) {
			k := r.Intn(len(ds))
			switch r.Intn(8) {
			case 0:
				ds = ds[1:]
			case 1:
				ls, ds = append(ls, nil), append(ds, api.Demand{From: 0, To: 0, Bytes: 1, Ready: 7, Due: 7})
			case 2:
				ls[k] = append(ls[k], send(0, 500, 1))
			default:
				x := spoil(r, task{n, ls[k], ds[k]})
				n, ls[k], ds[k] = x.n, x.l, x.d
			}
			e := net.Shared(n, ls, ds)
			if want := wantShared(n, ls, ds); e != want {
				t.Fatal("P15.7: Shared of", n, ls, ds, e, "and not", want)
			}
			seen[e]++
			if e != api.OK {
				break
			}
		}
	}
	enough(t, seen, 20, api.OK, api.ErrArg, api.ErrRange, api.ErrState, api.ErrFull, api.ErrLate)
}

// TestSharedErrors checks each error of Shared, alone and together with later ones.
func TestSharedErrors(t *testing.T) {
	x := example()
	half := []api.Send{send(0, 5, 50), send(2, 5, 5), send(1, 6, 50), send(2, 6, 5)}
	d := api.Demand{From: 0, To: 2, Bytes: 60, Ready: 5, Due: 7}
	late, early, wrong := d, d, d
	late.Bytes, early.Ready, wrong.To = 61, 6, 3
	full := []api.Send{send(0, 5, 1<<30)}
	again := []api.Send{send(0, 29, 10), send(1, 30, 10)}
	for _, y := range []struct {
		name string
		ls   [][]api.Send
		ds   []api.Demand
		want api.Errno
	}{
		{"nothing", nil, nil, api.OK},
		{"one schedule", [][]api.Send{x.l}, []api.Demand{x.d}, api.OK},
		{"two schedules that just fit", [][]api.Send{half, half}, []api.Demand{d, d}, api.OK},
		{"three schedules", [][]api.Send{half, again, half}, []api.Demand{d, {From: 0, To: 2, Bytes: 10, Ready: 20, Due: 40}, d}, api.OK},
		{"schedules that fit alone", [][]api.Send{half, x.l}, []api.Demand{d, x.d}, api.ErrFull},
		{"schedules that fit alone, and a wrong demand", [][]api.Send{half, x.l}, []api.Demand{d, wrong}, api.ErrFull},
		{"schedules that fit alone, and a late one", [][]api.Send{half, x.l}, []api.Demand{late, d}, api.ErrFull},
		{"a demand too few", [][]api.Send{half, half}, []api.Demand{d}, api.ErrArg},
		{"a demand too many", [][]api.Send{half, half}, []api.Demand{d, d, d}, api.ErrArg},
		{"a demand without schedules", nil, []api.Demand{d}, api.ErrArg},
		{"a schedule without demands", [][]api.Send{nil}, nil, api.ErrArg},
		{"a demand too few, and schedules that fit alone", [][]api.Send{half, x.l}, []api.Demand{d}, api.ErrArg},
		{"a demand too few, and too many bytes", [][]api.Send{full, full}, []api.Demand{d}, api.ErrArg},
		{"a demand too few, and too many sends", [][]api.Send{many(2000), again, {send(0, 700, 1)}}, []api.Demand{d}, api.ErrArg},
		{"a demand too few, and a wrong schedule", [][]api.Send{half, {send(0, 5, 0)}}, []api.Demand{d}, api.ErrRange},
		{"a demand too few, and schedules with two errors", [][]api.Send{half, many(2001), {send(0, 5, 0)}}, []api.Demand{d}, api.ErrLimit},
		{"too many bytes", [][]api.Send{full, full}, []api.Demand{d, d}, api.ErrRange},
		{"too many sends", [][]api.Send{many(2000), {send(0, 700, 1)}}, []api.Demand{d, d}, api.ErrLimit},
		{"a late one", [][]api.Send{half, half}, []api.Demand{d, late}, api.ErrLate},
		{"a late one, and a wrong demand", [][]api.Send{half, half}, []api.Demand{late, wrong}, api.ErrLate},
		{"a wrong demand, and a late one", [][]api.Send{half, half}, []api.Demand{wrong, late}, api.ErrArg},
		{"a late one, and one that is too early", [][]api.Send{half, half}, []api.Demand{late, early}, api.ErrLate},
		{"one that is too early, and a late one", [][]api.Send{half, half}, []api.Demand{early, late}, api.ErrState},
		{"what one demand needs comes from the other one", [][]api.Send{{send(0, 5, 50)}, {send(1, 6, 50)}}, []api.Demand{{From: 0, To: 1, Bytes: 50, Ready: 5, Due: 6}, {From: 0, To: 2, Bytes: 50, Ready: 5, Due: 7}}, api.ErrState},
	} {
		if e, want := net.Shared(x.n, y.ls, y.ds), wantShared(x.n, y.ls, y.ds); e != y.want || want != y.want {
			t.Error("P15.7: Shared of", y.name, e, "and not", y.want)
		}
	}
}

// TestAnyNumbers calls all functions with any numbers in all places.
func TestAnyNumbers(t *testing.T) {
	r := rand.New(rand.NewSource(7))
	number := func() int { return someNumbers[r.Intn(len(someNumbers))] }
	for range 50000 {
		x := small(r)
		if r.Intn(6) == 0 {
			x.n.Houses = number()
		}
		if k := len(x.n.Links); k > 0 && r.Intn(4) == 0 {
			l := &x.n.Links[r.Intn(k)]
			*[]*int{&l.From, &l.To, &l.Cap[r.Intn(24)], &l.Price[r.Intn(24)]}[r.Intn(4)] = number()
		}
		if k := len(x.l); k > 0 && r.Intn(3) == 0 {
			s := &x.l[r.Intn(k)]
			*[]*int{&s.Link, &s.Tick, &s.Bytes}[r.Intn(3)] = number()
		}
		if r.Intn(2) == 0 {
			*[]*int{&x.d.From, &x.d.To, &x.d.Bytes, &x.d.Ready, &x.d.Due}[r.Intn(5)] = number()
		}
		checkAll(t, x, number(), number())
	}
}

// checkAll compares all functions with what the chapter says.
func checkAll(t *testing.T, x task, a, b int) {
	t.Helper()
	if e, want := net.Check(x.n), wantCheck(x.n); e != want {
		t.Fatal("P15.1: Check of", x.n, e, "and not", want)
	}
	if e, want := net.Right(x.n, x.l), wantRight(x.n, x.l); e != want {
		t.Fatal("P15.2: Right of", x, e, "and not", want)
	}
	if e, want := net.Fits(x.n, x.l), wantFits(x.n, x.l); e != want {
		t.Fatal("P15.3: Fits of", x, e, "and not", want)
	}
	cost, e := net.Cost(x.n, x.l)
	if want, wantE := wantCost(x.n, x.l); cost != want || e != wantE {
		t.Fatal("P15.3: Cost of", x, cost, e, "and not", want, wantE)
	}
	left, e := net.Left(x.n, x.l, a, b)
	if want, wantE := wantLeft(x.n, x.l, a, b); left != want || e != wantE {
		t.Fatal("P15.3: Left of", x, a, b, left, e, "and not", want, wantE)
	}
	ls := [][]api.Send{x.l, nil, x.l}
	l, e := net.Join(x.n, ls)
	if want, wantE := wantJoin(x.n, ls); !slices.Equal(l, want) || e != wantE {
		t.Fatal("P15.4: Join of", x, "with itself", l, e, "and not", want, wantE)
	}
	stock, e := net.Stock(x.n, x.l, x.d, a, b)
	if want, wantE := wantStock(x.n, x.l, x.d, a, b); stock != want || e != wantE {
		t.Fatal("P15.5: Stock of", x, a, b, stock, e, "and not", want, wantE)
	}
	if e, want := net.Serves(x.n, x.l, x.d), wantServes(x); e != want {
		t.Fatal("P15.6: Serves of", x, e, "and not", want)
	}
	tick, e := net.Arrives(x.n, x.l, x.d)
	if want, wantE := wantArrives(x); tick != want || e != wantE {
		t.Fatal("P15.6: Arrives of", x, tick, e, "and not", want, wantE)
	}
	ds := []api.Demand{x.d, {From: 0, To: 0, Bytes: 1}, x.d}
	if e, want := net.Shared(x.n, ls, ds), wantShared(x.n, ls, ds); e != want {
		t.Fatal("P15.7: Shared of", x, e, "and not", want)
	}
}

// TestMemory checks that Join changes no schedule, and shares no memory with any.
func TestMemory(t *testing.T) {
	r := rand.New(rand.NewSource(8))
	spoilt := send(9, 99, 999)
	for range 500 {
		n := anyNet(r, 4, 6, 50)
		ls := someSchedules(r, n, 1+r.Intn(4), 20)
		if r.Intn(3) == 0 {
			ls = ls[:1]
		}
		before := make([][]api.Send, len(ls))
		for k, l := range ls {
			ls[k] = append(l, spoilt)[:len(l)]
			before[k] = slices.Clone(l)
		}
		l, e := net.Join(n, ls)
		other, _ := net.Join(n, ls)
		if e != api.OK {
			t.Fatal("P15.4: Join of", ls, e)
		}
		again := slices.Clone(l)
		for k := range other {
			other[k] = spoilt
		}
		for k := range ls {
			if !slices.Equal(ls[k], before[k]) || ls[k][:len(ls[k])+1][len(ls[k])] != spoilt {
				t.Fatal("chapter 15: Join changed", before[k], ls[k])
			}
			for i := range ls[k] {
				ls[k][i] = spoilt
			}
		}
		if !slices.Equal(l, again) {
			t.Fatal("chapter 15: what Join returns shares memory", l, again)
		}
	}
}
