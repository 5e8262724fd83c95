package net_test

import (
	"math"
	"math/rand"
	"slices"
	"testing"

	"quietus/api"
	"quietus/net"
)

// end is the last tick, and most the greatest number of bytes of a link in a tick.
const (
	end  = 1000000
	most = 1 << 30
)

// someNumbers are numbers of which many are no house, no link, no tick, no number of bytes and no price.
var someNumbers = []int{math.MinInt, math.MinInt + 1, -1 << 32, -2, -1, 0, 1, 2, 3, 5, 11, 12, 13, 23, 24, 25, 59, 60, 61, 119, end - 1, end, end + 1, most - 1, most, most + 1, 1 << 40, 1<<40 + 1, 1 << 62, math.MaxInt - 1, math.MaxInt}

// task is a net, a schedule and a demand.
type task struct {
	n api.Net
	l []api.Send
	d api.Demand
}

// link is a link with the same capacity and the same price at all hours.
func link(from, to, carries, price int) api.Link {
	k := api.Link{From: from, To: to}
	for h := range 24 {
		k.Cap[h], k.Price[h] = carries, price
	}
	return k
}

// send is a send, as the chapter writes it.
func send(link, tick, bytes int) api.Send { return api.Send{Link: link, Tick: tick, Bytes: bytes} }

// example is the net, the first schedule and the demand of the chapter.
func example() task {
	return task{
		n: api.Net{Houses: 3, Links: []api.Link{link(0, 1, 100, 2), link(1, 2, 100, 2), link(0, 2, 10, 1)}},
		l: []api.Send{send(0, 5, 100), send(2, 5, 10), send(1, 6, 100), send(2, 6, 10)},
		d: api.Demand{From: 0, To: 2, Bytes: 120, Ready: 5, Due: 8},
	}
}

// isIn says whether a number is in a range.
func isIn(n, lo, hi int) bool { return lo <= n && n <= hi }

// wantCheck is the first error of a net.
func wantCheck(n api.Net) api.Errno {
	if !isIn(n.Houses, 1, 12) || len(n.Links) > 60 {
		return api.ErrLimit
	}
	for _, k := range n.Links {
		if !isIn(k.From, 0, n.Houses-1) || !isIn(k.To, 0, n.Houses-1) || k.From == k.To {
			return api.ErrArg
		}
		for h := range 24 {
			if !isIn(k.Cap[h], 0, most) || !isIn(k.Price[h], 0, 1000000) {
				return api.ErrRange
			}
		}
	}
	return api.OK
}

// comesAfter says whether a send comes after another one.
func comesAfter(s, before api.Send) bool {
	return s.Tick > before.Tick || s.Tick == before.Tick && s.Link > before.Link
}

// wantRight is the first error of a schedule.
func wantRight(n api.Net, l []api.Send) api.Errno {
	if e := wantCheck(n); e != api.OK {
		return e
	}
	if len(l) > 2000 {
		return api.ErrLimit
	}
	for k, s := range l {
		if !isIn(s.Link, 0, len(n.Links)-1) {
			return api.ErrArg
		}
		if !isIn(s.Tick, 0, end-1) || !isIn(s.Bytes, 1, most) {
			return api.ErrRange
		}
		if k > 0 && !comesAfter(s, l[k-1]) {
			return api.ErrArg
		}
	}
	return api.OK
}

// wantFits is what Fits returns.
func wantFits(n api.Net, l []api.Send) api.Errno {
	if e := wantRight(n, l); e != api.OK {
		return e
	}
	for _, s := range l {
		if s.Bytes > n.Links[s.Link].Cap[s.Tick%24] {
			return api.ErrFull
		}
	}
	return api.OK
}

// wantCost is what Cost returns.
func wantCost(n api.Net, l []api.Send) (int, api.Errno) {
	if e := wantRight(n, l); e != api.OK {
		return 0, e
	}
	cost := 0
	for _, s := range l {
		cost += n.Links[s.Link].Price[s.Tick%24] * s.Bytes
	}
	return cost, api.OK
}

// wantLeft is what Left returns.
func wantLeft(n api.Net, l []api.Send, link, tick int) (int, api.Errno) {
	if e := wantRight(n, l); e != api.OK {
		return 0, e
	}
	if !isIn(link, 0, len(n.Links)-1) || !isIn(tick, 0, end-1) {
		return 0, api.ErrArg
	}
	left := n.Links[link].Cap[tick%24]
	for _, s := range l {
		if s.Link == link && s.Tick == tick {
			left -= s.Bytes
		}
	}
	return left, api.OK
}

// wantRights is the first error of schedules, or of a net.
func wantRights(n api.Net, ls [][]api.Send) api.Errno {
	for _, l := range append([][]api.Send{nil}, ls...) {
		if e := wantRight(n, l); e != api.OK {
			return e
		}
	}
	return api.OK
}

// wantJoin is what Join returns.
func wantJoin(n api.Net, ls [][]api.Send) ([]api.Send, api.Errno) {
	if e := wantRights(n, ls); e != api.OK {
		return nil, e
	}
	sorted := slices.Concat(ls...)
	slices.SortFunc(sorted, func(a, b api.Send) int {
		switch {
		case comesAfter(a, b):
			return 1
		case comesAfter(b, a):
			return -1
		}
		return 0
	})
	var l []api.Send
	for _, s := range sorted {
		if n := len(l); n > 0 && !comesAfter(s, l[n-1]) {
			l[n-1].Bytes += s.Bytes
		} else {
			l = append(l, s)
		}
	}
	if len(l) > 2000 {
		return nil, api.ErrLimit
	}
	for _, s := range l {
		if s.Bytes > most {
			return nil, api.ErrRange
		}
	}
	return l, api.OK
}

// wantDemand says whether a demand is right.
func wantDemand(n api.Net, d api.Demand) bool {
	return isIn(d.From, 0, n.Houses-1) && isIn(d.To, 0, n.Houses-1) && isIn(d.Bytes, 1, 1<<40) &&
		isIn(d.Ready, 0, end) && isIn(d.Due, 0, end) && !(d.Ready > d.Due)
}

// wantStock is what Stock returns.
func wantStock(n api.Net, l []api.Send, d api.Demand, house, tick int) (int, api.Errno) {
	if e := wantRight(n, l); e != api.OK {
		return 0, e
	}
	if !wantDemand(n, d) || !isIn(house, 0, n.Houses-1) || !isIn(tick, 0, end) {
		return 0, api.ErrArg
	}
	return bytesIn(n, l, d, house, tick), api.OK
}

// bytesIn is the stock of a house, of arguments without errors.
func bytesIn(n api.Net, l []api.Send, d api.Demand, house, tick int) int {
	bytes := 0
	if house == d.From && tick >= d.Ready {
		bytes = d.Bytes
	}
	for _, s := range l {
		if s.Tick < tick && n.Links[s.Link].To == house {
			bytes += s.Bytes
		}
		if s.Tick < tick && n.Links[s.Link].From == house {
			bytes -= s.Bytes
		}
	}
	return bytes
}

// wantServes is what Serves returns.
func wantServes(x task) api.Errno {
	if e := wantRight(x.n, x.l); e != api.OK {
		return e
	}
	if !wantDemand(x.n, x.d) {
		return api.ErrArg
	}
	if e := wantFits(x.n, x.l); e != api.OK {
		return e
	}
	for _, s := range x.l {
		house, bytes := x.n.Links[s.Link].From, 0
		for _, other := range x.l {
			if other.Tick == s.Tick && x.n.Links[other.Link].From == house {
				bytes += other.Bytes
			}
		}
		if bytes > bytesIn(x.n, x.l, x.d, house, s.Tick) {
			return api.ErrState
		}
	}
	if bytesIn(x.n, x.l, x.d, x.d.To, x.d.Due) < x.d.Bytes {
		return api.ErrLate
	}
	return api.OK
}

// wantArrives is what Arrives returns; it looks at each tick.
func wantArrives(x task) (int, api.Errno) {
	if e := wantServes(x); e != api.OK {
		return 0, e
	}
	tick := x.d.Ready
	for bytesIn(x.n, x.l, x.d, x.d.To, tick) < x.d.Bytes {
		tick++
	}
	return tick, api.OK
}

// wantShared is what Shared returns.
func wantShared(n api.Net, ls [][]api.Send, ds []api.Demand) api.Errno {
	if e := wantRights(n, ls); e != api.OK {
		return e
	}
	if len(ls) != len(ds) {
		return api.ErrArg
	}
	l, e := wantJoin(n, ls)
	if e != api.OK {
		return e
	}
	if e := wantFits(n, l); e != api.OK {
		return e
	}
	for k, d := range ds {
		if e := wantServes(task{n, ls[k], d}); e != api.OK {
			return e
		}
	}
	return api.OK
}

// anyNet is a valid net with so many houses. From each house (if there are two or more) a link leads to the next one.
func anyNet(r *rand.Rand, houses, links, carries int) api.Net {
	n := api.Net{Houses: houses}
	for k := range links {
		from := k % houses
		to := (from + 1) % houses
		if k >= houses {
			from = r.Intn(houses)
			to = (from + 1 + r.Intn(max(1, houses-1))) % houses
		}
		if from == to {
			break
		}
		made := api.Link{From: from, To: to}
		for h := range 24 {
			made.Cap[h], made.Price[h] = r.Intn(carries+1), r.Intn(5)
			if carries == most {
				made.Price[h] = r.Intn(1000001)
			}
		}
		n.Links = append(n.Links, made)
	}
	return n
}

// places is what is sent, by link and tick.
type places map[[2]int]int

// schedule is the schedule of what is sent.
func (p places) schedule() []api.Send {
	var l []api.Send
	for at, bytes := range p {
		l = append(l, send(at[0], at[1], bytes))
	}
	slices.SortFunc(l, func(a, b api.Send) int {
		if comesAfter(a, b) {
			return 1
		}
		return -1
	})
	return l
}

// anySchedule is a schedule without errors; most such schedules serve no demand.
func anySchedule(r *rand.Rand, n api.Net, many, from, span, bytes int) []api.Send {
	p := places{}
	if len(n.Links) == 0 {
		return nil
	}
	for range many {
		p[[2]int{r.Intn(len(n.Links)), min(from+r.Intn(span), end-1)}] = 1 + r.Intn(bytes)
	}
	return p.schedule()
}

// distances are the numbers of links to a house.
func distances(n api.Net, to int) []int {
	far := make([]int, n.Houses)
	for h := range far {
		if h != to {
			far[h] = 1000
		}
	}
	for range n.Houses {
		for _, k := range n.Links {
			far[k.From] = min(far[k.From], far[k.To]+1)
		}
	}
	return far
}

// wander sends some bytes on a random way from Ready on; they are in To at Due, and may go on after it.
func wander(r *rand.Rand, n api.Net, d api.Demand, bytes int, p places) {
	far := distances(n, d.To)
	at, last := d.From, d.Due
	if r.Intn(4) == 0 {
		last = min(end, d.Due+r.Intn(4))
	}
	for tick := d.Ready; tick < last; tick++ {
		waits := tick >= d.Due || far[at] <= d.Due-tick-1
		for _, k := range r.Perm(len(n.Links)) {
			on := n.Links[k]
			if waits && r.Intn(3) == 0 {
				break
			}
			if on.From != at || tick < d.Due && far[on.To] > d.Due-tick-1 {
				continue
			}
			p[[2]int{k, tick}] += bytes
			at = on.To
			break
		}
	}
}

// served is a task whose schedule serves its demand. Its capacities suffice, some of them just so.
func served(r *rand.Rand, houses, links, parcels, bytes int) task {
	n := anyNet(r, houses, links, 3*bytes)
	d := api.Demand{From: r.Intn(houses), To: r.Intn(houses), Ready: r.Intn(60)}
	if r.Intn(8) == 0 {
		d.Ready = end - houses - r.Intn(60)
	}
	d.Due = min(end, d.Ready+distances(n, d.To)[d.From]+r.Intn(20))
	p := places{}
	for range parcels {
		some := 1 + r.Intn(bytes)
		d.Bytes += some
		wander(r, n, d, some, p)
	}
	l := p.schedule()
	for _, s := range l {
		c := &n.Links[s.Link].Cap[s.Tick%24]
		*c = max(*c, s.Bytes)
	}
	return task{n, l, d}
}

// small is a served task with few houses and few bytes.
func small(r *rand.Rand) task {
	houses := 1 + r.Intn(5)
	return served(r, houses, houses+r.Intn(6), 1+r.Intn(4), 1+r.Intn(20))
}

// great is a served task with many houses and many bytes.
func great(r *rand.Rand) task {
	houses := 6 + r.Intn(7)
	return served(r, houses, houses+r.Intn(61-houses), 1+r.Intn(15), most>>(4+r.Intn(20)))
}

// spoil changes one number of a task a little; what it returns may still serve.
func spoil(r *rand.Rand, x task) task {
	x = copied(x)
	little := r.Intn(5) - 2
	if k := len(x.l); k > 0 && r.Intn(3) > 0 {
		s := &x.l[r.Intn(k)]
		switch r.Intn(5) {
		case 0:
			s.Bytes += little
		case 1:
			s.Tick += little
		case 2:
			s.Link += little
		case 3:
			x.n.Links[s.Link].Cap[s.Tick%24] += little
		case 4:
			at := r.Intn(k)
			x.l = slices.Delete(x.l, at, at+1)
		}
		return x
	}
	switch r.Intn(5) {
	case 0:
		x.d.Bytes += little
	case 1:
		x.d.Ready += little
	case 2:
		x.d.Due += little
	case 3:
		x.d.From += little
	case 4:
		x.d.To += little
	}
	return x
}

// copied is a task in memory of its own.
func copied(x task) task {
	return task{copiedNet(x.n), append([]api.Send{}, x.l...), x.d}
}

// copiedNet is a net in memory of its own.
func copiedNet(n api.Net) api.Net {
	return api.Net{Houses: n.Houses, Links: append([]api.Link{}, n.Links...)}
}

// equal says whether two tasks are the same.
func equal(x, y task) bool {
	return x.n.Houses == y.n.Houses && slices.Equal(x.n.Links, y.n.Links) && slices.Equal(x.l, y.l) && x.d == y.d
}

// each calls a function with many tasks whose schedules serve, and with some that are spoilt, and checks that it does not change them.
func each(t *testing.T, seed int64, many int, f func(r *rand.Rand, x task)) {
	t.Helper()
	r := rand.New(rand.NewSource(seed))
	try := func(x task) {
		t.Helper()
		before := copied(x)
		f(r, x)
		if !equal(x, before) || t.Failed() {
			t.Fatal("chapter 15: with", before, "the argument is", x)
		}
	}
	try(example())
	for k := range many {
		x := small(r)
		if k%5 == 0 {
			x = great(r)
		}
		try(x)
		for range 3 {
			x = spoil(r, x)
			try(x)
			if net.Right(x.n, x.l) != api.OK {
				break
			}
		}
	}
}

// enough checks that each of some kinds of cases was met often enough.
func enough(t *testing.T, seen map[api.Errno]int, many int, kinds ...api.Errno) {
	t.Helper()
	for _, e := range kinds {
		if seen[e] < many {
			t.Error("too few cases of", e, seen)
		}
	}
}
