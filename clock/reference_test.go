package clock_test

import (
	"math"
	"math/rand"
	"slices"
	"testing"

	"quietus/api"
	"quietus/clock"
)

// last is the last instant, and the greatest value that a clock shows.
const last = 3600000000

// someNumbers are numbers of which many are no instant and no rate.
var someNumbers = []int{math.MinInt, math.MinInt + 1, -1 << 32, -last, -2, -1, 0, 1, 2, 3, 50, 99, 100, 101, 99999, 100000, 100001, 999999, 1000000, 1000001, last - 1, last, last + 1, 1 << 32, 1 << 62, math.MaxInt - 1, math.MaxInt}

// someRates are rates at which roundings differ.
var someRates = []int{0, 1, 2, 3, 7, 1000, 12345, 33333, 50000, 90909, 99990, 99999, 100000}

// example is the clock of the chapter.
func example() api.Clock {
	return api.Clock{Rate: 100000, Reads: []api.Reading{{Local: 100, When: api.When{Lo: 50, Hi: 60}}}}
}

// anyRate is a rate, at times the least or the greatest one.
func anyRate(r *rand.Rand) int {
	if r.Intn(3) == 0 {
		return r.Intn(api.MaxRate + 1)
	}
	return someRates[r.Intn(len(someRates))]
}

// anyInstant is an instant up to a limit, at times a very early or a very late one.
func anyInstant(r *rand.Rand, limit int) int {
	switch r.Intn(12) {
	case 0:
		return r.Intn(min(limit, 3) + 1)
	case 1:
		return limit - r.Intn(min(limit, 3)+1)
	}
	return r.Intn(limit + 1)
}

// anyRange is a valid range up to a limit.
func anyRange(r *rand.Rand, limit int) api.When {
	w := api.When{Lo: anyInstant(r, limit)}
	w.Hi = w.Lo + anyInstant(r, limit-w.Lo)
	if r.Intn(2) == 0 {
		w.Hi = w.Lo + r.Intn(min(limit-w.Lo, 20)+1)
	}
	return w
}

// anyClock is a valid clock with at most so many readings, all numbers of which are at most a limit; most of its readings contradict each other, if there are several ones.
func anyClock(r *rand.Rand, most, limit int) api.Clock {
	c := api.Clock{Rate: anyRate(r)}
	seen := map[int]bool{}
	for range r.Intn(most + 1) {
		seen[anyInstant(r, limit)] = true
	}
	for local := range seen {
		c.Reads = append(c.Reads, api.Reading{Local: local})
	}
	slices.SortFunc(c.Reads, func(a, b api.Reading) int { return a.Local - b.Local })
	for k := range c.Reads {
		c.Reads[k].When = anyRange(r, limit)
	}
	return c
}

// calmClock is a valid clock whose readings seldom contradict each other.
func calmClock(r *rand.Rand, most, limit int) api.Clock {
	c := anyClock(r, most, limit/2)
	wide := limit/12 + 1
	for k, read := range c.Reads {
		lo := max(0, read.Local-c.Rate*read.Local/1000000-r.Intn(wide))
		c.Reads[k].When = api.When{Lo: lo, Hi: min(last, read.Local+c.Rate*read.Local/900000+r.Intn(wide)+1)}
	}
	return c
}

// small is a clock with few readings and small numbers.
func small(r *rand.Rand) api.Clock {
	if r.Intn(2) == 0 {
		return calmClock(r, 1+r.Intn(5), 10+r.Intn(500))
	}
	return anyClock(r, 2, 200)
}

// great is a clock with any number of readings, and numbers of all sizes.
func great(r *rand.Rand) api.Clock {
	limit := last >> r.Intn(24)
	if r.Intn(3) > 0 {
		return calmClock(r, r.Intn(api.MaxReads+1), limit)
	}
	return anyClock(r, r.Intn(4), limit)
}

// anyLocal is a value that a clock shows, often one near a reading.
func anyLocal(r *rand.Rand, c api.Clock) int {
	if len(c.Reads) == 0 || r.Intn(10) == 0 {
		return anyInstant(r, last)
	}
	local := c.Reads[r.Intn(len(c.Reads))].Local
	switch r.Intn(3) {
	case 0:
		local += r.Intn(5) - 2
	case 1:
		local += r.Intn(2001) - 1000
	}
	return min(max(local, 0), last)
}

// isIn says whether a number is in a range.
func isIn(n, lo, hi int) bool { return lo <= n && n <= hi }

// wantRange says whether a range is valid.
func wantRange(w api.When) bool {
	return !(w.Lo > w.Hi) && isIn(w.Lo, 0, last) && isIn(w.Hi, 0, last)
}

// wantCheck is the first error of a clock.
func wantCheck(c api.Clock) api.Errno {
	if !isIn(c.Rate, 0, 100000) {
		return api.ErrRange
	}
	if len(c.Reads) > 16 {
		return api.ErrLimit
	}
	for k, r := range c.Reads {
		if !isIn(r.Local, 0, last) || !wantRange(r.When) {
			return api.ErrRange
		}
		if k > 0 && r.Local <= c.Reads[k-1].Local {
			return api.ErrArg
		}
	}
	return api.OK
}

// up is a quotient, rounded up.
func up(a, b int) int {
	q := a / b
	if q*b < a {
		q++
	}
	return q
}

// wantPassed is what P14.2 says, of a valid rate and of a value that a clock shows.
func wantPassed(rate, shown int) (lo, hi int) {
	if shown != 0 {
		lo = (shown-1)*1000000/(1000000+rate) + 1
	}
	return lo, up((shown+1)*1000000, 1000000-rate) - 1
}

// canShow says whether a clock can show values with a difference so many instants apart. What its value is beyond whole units at the beginning, and what it has gained at the end, are together any number of millionths between two bounds.
func canShow(rate, shown, instants int) bool {
	least := instants * (1000000 - rate)
	most := instants*(1000000+rate) + 999999
	return shown*1000000 <= most && shown*1000000+999999 >= least
}

// wantBounds are the bounds of P14.3, of a valid clock and value.
func wantBounds(c api.Clock, local int) (lower, upper int) {
	lowers, uppers := []int{0}, []int{last}
	for _, r := range c.Reads {
		var from, to int
		switch lo, hi := wantPassed(c.Rate, max(local-r.Local, r.Local-local)); {
		case r.Local < local:
			from, to = r.When.Lo+lo, r.When.Hi+hi
		case r.Local > local:
			from, to = r.When.Lo-hi, r.When.Hi-lo
		default:
			from, to = r.When.Lo-hi, r.When.Hi+hi
		}
		lowers, uppers = append(lowers, from), append(uppers, to)
	}
	return slices.Max(lowers), slices.Min(uppers)
}

// wantNow is what Now returns.
func wantNow(c api.Clock, local int) (api.When, api.Errno) {
	if e := wantCheck(c); e != api.OK {
		return api.When{}, e
	}
	if !isIn(local, 0, last) {
		return api.When{}, api.ErrRange
	}
	lower, upper := wantBounds(c, local)
	if lower > upper {
		return api.When{}, api.ErrConflict
	}
	return api.When{Lo: lower, Hi: upper}, api.OK
}

// wantJoin is what Join returns.
func wantJoin(a, b api.When) (api.When, api.Errno) {
	if !wantRange(a) || !wantRange(b) {
		return api.When{}, api.ErrRange
	}
	// What begins last, and what ends first.
	w := api.When{Lo: slices.Max([]int{a.Lo, b.Lo}), Hi: slices.Min([]int{a.Hi, b.Hi})}
	if w.Lo > w.Hi {
		return api.When{}, api.ErrConflict
	}
	return w, api.OK
}

// wantSync is what Sync returns.
func wantSync(c api.Clock, r api.Reading) (api.Clock, api.Errno) {
	if e := wantCheck(c); e != api.OK {
		return api.Clock{}, e
	}
	if !isIn(r.Local, 0, last) || !wantRange(r.When) {
		return api.Clock{}, api.ErrRange
	}
	for _, old := range c.Reads {
		if old.Local >= r.Local {
			return api.Clock{}, api.ErrStale
		}
	}
	now, e := wantNow(c, r.Local)
	if e != api.OK {
		return api.Clock{}, e
	}
	w, e := wantJoin(r.When, now)
	if e != api.OK {
		return api.Clock{}, e
	}
	more := copied(c)
	more.Reads = append(more.Reads, api.Reading{Local: r.Local, When: w})
	if len(more.Reads) == 17 {
		more.Reads = more.Reads[1:]
	}
	return more, api.OK
}

// wantAnswer is what Answer returns.
func wantAnswer(c api.Clock, sent, got int, remote api.When) (api.Reading, api.Errno) {
	if e := wantCheck(c); e != api.OK {
		return api.Reading{}, e
	}
	if !isIn(sent, 0, last) || !isIn(got, sent, last) || !wantRange(remote) {
		return api.Reading{}, api.ErrRange
	}
	_, hi := wantPassed(c.Rate, got-sent)
	hi += remote.Hi
	if hi > last {
		hi = last
	}
	return api.Reading{Local: got, When: api.When{Lo: remote.Lo, Hi: hi}}, api.OK
}

// copied is a clock in memory of its own.
func copied(c api.Clock) api.Clock {
	return api.Clock{Rate: c.Rate, Reads: append([]api.Reading{}, c.Reads...)}
}

// equal says whether two clocks are the same.
func equal(a, b api.Clock) bool { return a.Rate == b.Rate && slices.Equal(a.Reads, b.Reads) }

// each calls a function with many clocks, and checks that it does not change them.
func each(t *testing.T, seed int64, many int, made func(r *rand.Rand) api.Clock, f func(r *rand.Rand, c api.Clock)) {
	t.Helper()
	r := rand.New(rand.NewSource(seed))
	f(r, example())
	for range many {
		c := made(r)
		if e := clock.Check(c); e != api.OK {
			t.Fatal("P14.1: Check of", c, e)
		}
		before := copied(c)
		f(r, c)
		if !equal(c, before) || t.Failed() {
			t.Fatal("chapter 14: with", before, "the argument is", c)
		}
	}
}

// enough checks that each of some kinds of cases was met often enough.
func enough(t *testing.T, seen map[api.Errno]int, many int, kinds ...api.Errno) {
	t.Helper()
	for _, e := range kinds {
		if seen[e] < many {
			t.Error("too few cases of", e, seen)
		}
	}
}
