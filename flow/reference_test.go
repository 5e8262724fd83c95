package flow_test

import (
	"math"
	"math/rand"
	"slices"
	"testing"

	"quietus/api"
	"quietus/flow"
	"quietus/net"
)

// end is the last tick, most the greatest number of bytes of a link in a tick, and all the greatest number of bytes of a demand.
const (
	end  = 1000000
	most = 1 << 30
	all  = 1 << 40
)

// someNumbers are numbers of which many are no house, no link, no tick, no number of bytes and no price.
var someNumbers = []int{math.MinInt, math.MinInt + 1, -1 << 32, -2, -1, 0, 1, 2, 3, 5, 11, 12, 13, 31, 32, 33, 59, 60, 61, 119, end - 1, end, end + 1, most - 1, most, most + 1, all - 1, all, all + 1, 1 << 62, math.MaxInt - 1, math.MaxInt}

// task is what all functions are given.
type task struct {
	n    api.Net
	used []api.Send
	d    api.Demand
}

// link is a link with the same capacity and the same price at all hours.
func link(from, to, carries, price int) api.Link {
	k := api.Link{From: from, To: to}
	for h := range 24 {
		k.Cap[h], k.Price[h] = carries, price
	}
	return k
}

// send is a send, as the chapter writes it.
func send(link, tick, bytes int) api.Send { return api.Send{Link: link, Tick: tick, Bytes: bytes} }

// example is the net and the demand of the chapter.
func example() task {
	return task{
		n: api.Net{Houses: 3, Links: []api.Link{link(0, 1, 100, 2), link(1, 2, 100, 2), link(0, 2, 10, 1)}},
		d: api.Demand{From: 0, To: 2, Bytes: 120, Ready: 5, Due: 8},
	}
}

// isIn says whether a number is in a range.
func isIn(n, lo, hi int) bool { return lo <= n && n <= hi }

// wantCheck is the first error of a task.
func wantCheck(x task) api.Errno {
	if e := net.Right(x.n, x.used); e != api.OK {
		return e
	}
	if net.Fits(x.n, x.used) != api.OK {
		return api.ErrFull
	}
	d := x.d
	if !isIn(d.From, 0, x.n.Houses-1) || !isIn(d.To, 0, x.n.Houses-1) || !isIn(d.Bytes, 1, all) ||
		!isIn(d.Ready, 0, end) || !isIn(d.Due, 0, end) || d.Ready > d.Due {
		return api.ErrArg
	}
	if d.Due > d.Ready+32 {
		return api.ErrLimit
	}
	return api.OK
}

// left is what is left of a link in a tick, of a task without errors.
func left(x task, link, tick int) int {
	bytes := x.n.Links[link].Cap[tick%24]
	for _, s := range x.used {
		if s.Link == link && s.Tick == tick {
			bytes -= s.Bytes
		}
	}
	return bytes
}

// possible says whether a schedule is possible besides the one that is used.
func possible(x task, l []api.Send) bool {
	for _, s := range l {
		if s.Bytes > left(x, s.Link, s.Tick) {
			return false
		}
	}
	return true
}

// between are the links in all ticks from Ready to Due - 1, as sends of all that is left of them.
func between(x task) []api.Send {
	var l []api.Send
	for tick := x.d.Ready; tick < x.d.Due; tick++ {
		for k := range x.n.Links {
			l = append(l, send(k, tick, left(x, k, tick)))
		}
	}
	return l
}

// eachPossible calls a function with all schedules that send no more than what is left, from Ready to Due - 1; it must not keep them.
func eachPossible(x task, f func(l []api.Send)) {
	places := between(x)
	var try func(k int, l []api.Send)
	try = func(k int, l []api.Send) {
		if k == len(places) {
			f(l)
			return
		}
		try(k+1, l)
		for bytes := range places[k].Bytes {
			try(k+1, append(l, send(places[k].Link, places[k].Tick, bytes+1)))
		}
	}
	try(0, nil)
}

// cheapest finds by trying all schedules the least cost for each number of bytes for which one serves a demand. From is not To; so what a schedule brings is what arrives in To.
func cheapest(x task) map[int]int {
	costs := map[int]int{}
	eachPossible(x, func(l []api.Send) {
		d := x.d
		d.Bytes = 0
		for _, s := range l {
			if x.n.Links[s.Link].To == d.To {
				d.Bytes += s.Bytes
			}
			if x.n.Links[s.Link].From == d.To {
				d.Bytes -= s.Bytes
			}
		}
		if net.Serves(x.n, l, d) != api.OK {
			return
		}
		cost, _ := net.Cost(x.n, l)
		if known, ok := costs[d.Bytes]; !ok || cost < known {
			costs[d.Bytes] = cost
		}
	})
	return costs
}

// expanded are the arcs between houses at ticks over which more bytes could be sent, besides what is used and a schedule: the waiting of bytes, and what could be sent back, too. The house h at the tick t is (t - Ready) * Houses + h.
func expanded(x task, l []api.Send) []arc {
	at := func(house, tick int) int { return (tick-x.d.Ready)*x.n.Houses + house }
	sent := map[[2]int]int{}
	for _, s := range l {
		sent[[2]int{s.Link, s.Tick}] = s.Bytes
	}
	var arcs []arc
	for _, s := range between(x) {
		k := x.n.Links[s.Link]
		from, to, price := at(k.From, s.Tick), at(k.To, s.Tick+1), k.Price[s.Tick%24]
		bytes := sent[[2]int{s.Link, s.Tick}]
		arcs = append(arcs, arc{from, to, s.Bytes - bytes, price}, arc{to, from, bytes, -price})
	}
	for tick := x.d.Ready; tick < x.d.Due; tick++ {
		for house := range x.n.Houses {
			waits, _ := net.Stock(x.n, l, x.d, house, tick)
			for _, s := range l {
				if s.Tick == tick && x.n.Links[s.Link].From == house {
					waits -= s.Bytes
				}
			}
			from, to := at(house, tick), at(house, tick+1)
			arcs = append(arcs, arc{from, to, all, 0}, arc{to, from, waits, 0})
		}
	}
	return slices.DeleteFunc(arcs, func(a arc) bool { return a.more == 0 })
}

// arc is a way for more bytes from a house at a tick to another one, and what one of them costs.
type arc struct{ from, to, more, price int }

// isCheapest says whether no other schedule is cheaper than one that serves: whether bytes cannot be sent in a circle, over arcs that have room, for less than nothing.
func isCheapest(x task, l []api.Send) bool {
	arcs := expanded(x, l)
	points := (x.d.Due - x.d.Ready + 1) * x.n.Houses
	price := make([]int, points)
	for range points {
		less := false
		for _, a := range arcs {
			if price[a.from]+a.price < price[a.to] {
				price[a.to] = price[a.from] + a.price
				less = true
			}
		}
		if !less {
			return true
		}
	}
	return false
}

// front is a tick for each house: the first one at which more bytes could be there, besides what is used and a schedule that serves; Due + 1 if there is none.
func front(x task, l []api.Send) []int {
	arcs := expanded(x, l)
	reached := make([]bool, (x.d.Due-x.d.Ready+1)*x.n.Houses)
	reached[x.d.From] = true
	for more := true; more; {
		more = false
		for _, a := range arcs {
			if reached[a.from] && !reached[a.to] {
				reached[a.to], more = true, true
			}
		}
	}
	ticks := slices.Repeat([]int{x.d.Due + 1}, x.n.Houses)
	for k, is := range reached {
		if h := k % x.n.Houses; is {
			ticks[h] = min(ticks[h], x.d.Ready+k/x.n.Houses)
		}
	}
	return ticks
}

// barrier is the sum of what is left of all links in the ticks in which they lead over a front.
func barrier(n api.Net, between []api.Send, ticks []int) int {
	sum := 0
	for _, s := range between {
		k := n.Links[s.Link]
		if ticks[k.From] <= s.Tick && ticks[k.To] > s.Tick+1 {
			sum += s.Bytes
		}
	}
	return sum
}

// anyNet is a valid net. From each house (if there are two or more, and links enough) a link leads to the next one.
func anyNet(r *rand.Rand, houses, links, carries, price int) api.Net {
	n := api.Net{Houses: houses}
	if houses == 1 {
		return n
	}
	for k := range links {
		from := k % houses
		to := (from + 1) % houses
		if k >= houses {
			from = r.Intn(houses)
			to = (from + 1 + r.Intn(houses-1)) % houses
		}
		made := api.Link{From: from, To: to}
		for h := range 24 {
			made.Cap[h], made.Price[h] = r.Intn(carries+1), r.Intn(price+1)
		}
		n.Links = append(n.Links, made)
	}
	return n
}

// anyUsed is a schedule that fits a net and takes some capacity, or all of it, of one of so many links in the ticks from one to another one, and around them.
func anyUsed(r *rand.Rand, n api.Net, from, to, rare int) []api.Send {
	var l []api.Send
	for tick := max(0, from-2); tick < min(end, to+2); tick++ {
		for k := range n.Links {
			if room := n.Links[k].Cap[tick%24]; room > 0 && r.Intn(rare) == 0 && len(l) < 2000 {
				l = append(l, send(k, tick, max(1+r.Intn(room), r.Intn(2)*room)))
			}
		}
	}
	return l
}

// made is a task without errors. Mostly From is not To.
func made(r *rand.Rand, n api.Net, span int) task {
	d := api.Demand{From: r.Intn(n.Houses), To: r.Intn(n.Houses), Bytes: 1, Ready: r.Intn(60)}
	if d.From == d.To && r.Intn(8) > 0 {
		d.To = (d.From + 1) % n.Houses
	}
	if r.Intn(8) == 0 {
		d.Ready = end - span - r.Intn(3)
	}
	d.Due = min(end, d.Ready+span)
	return task{n, anyUsed(r, n, d.Ready, d.Due, 1+r.Intn(12)), d}
}

// tiny is a task for which all schedules can be tried.
func tiny(r *rand.Rand) task {
	houses := 2 + r.Intn(2)
	x := made(r, anyNet(r, houses, houses-1+r.Intn(houses+2), 1+r.Intn(3), r.Intn(4)), r.Intn(6))
	x.d.Bytes = 1 + r.Intn(4)
	for tried := 1; ; tried = 1 {
		for _, s := range between(x) {
			tried *= s.Bytes + 1
		}
		if tried <= 5000 {
			return x
		}
		x.d.Due--
	}
}

// some is a task with a number of bytes that can be in time, if there is one, or with the next one.
func some(r *rand.Rand, x task) task {
	m, _ := flow.Most(x.n, x.used, x.d)
	switch r.Intn(4) {
	case 0:
		x.d.Bytes = max(1, m)
	case 1:
		x.d.Bytes = min(all, m+1)
	default:
		x.d.Bytes = 1 + r.Intn(max(1, m))
	}
	return x
}

// small is a task with few houses and few bytes.
func small(r *rand.Rand) task {
	houses := 1 + r.Intn(5)
	n := anyNet(r, houses, houses+r.Intn(6), 1+r.Intn(20), r.Intn(5))
	return some(r, made(r, n, r.Intn(9)))
}

// great is a task with many houses and many bytes.
func great(r *rand.Rand) task {
	houses := 2 + r.Intn(11)
	price := []int{0, 3, 1000, 1000000}[r.Intn(4)]
	n := anyNet(r, houses, min(60, houses+r.Intn(60)), most>>r.Intn(30), price)
	return some(r, made(r, n, 33-1-r.Intn(1+r.Intn(33))))
}

// copied is a copy that shares no memory.
func copied(x task) task {
	x.n.Links, x.used = slices.Clone(x.n.Links), slices.Clone(x.used)
	return x
}

// equal says whether two tasks are the same.
func equal(x, y task) bool {
	return x.n.Houses == y.n.Houses && slices.Equal(x.n.Links, y.n.Links) && slices.Equal(x.used, y.used) && x.d == y.d
}

// each calls a function with many tasks, and checks that it does not change them.
func each(t *testing.T, seed int64, many int, f func(r *rand.Rand, x task)) {
	t.Helper()
	r := rand.New(rand.NewSource(seed))
	try := func(x task) {
		t.Helper()
		before := copied(x)
		f(r, x)
		if !equal(x, before) || t.Failed() {
			t.Fatal("chapter 16: with", before, "the argument is", x)
		}
	}
	try(example())
	for k := range many {
		switch {
		case k%25 == 0:
			try(great(r))
		case k%3 == 0:
			try(tiny(r))
		default:
			try(small(r))
		}
	}
}

// enough checks that each of some kinds of cases was met often enough.
func enough(t *testing.T, seen map[api.Errno]int, many int, kinds ...api.Errno) {
	t.Helper()
	for _, e := range kinds {
		if seen[e] < many {
			t.Error("too few cases of", e, seen)
		}
	}
}
