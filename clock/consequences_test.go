package clock_test

import (
	"math/rand"
	"slices"
	"testing"

	"quietus/api"
	"quietus/clock"
)

// TestExact checks that Passed allows exactly the numbers of instants that are possible.
func TestExact(t *testing.T) {
	for _, rate := range someRates {
		for shown := range 120 {
			lo, hi, _ := clock.Passed(rate, shown)
			for instants := range 150 {
				if isIn(instants, lo, hi) != canShow(rate, shown, instants) {
					t.Fatal("P14.8: Passed of", rate, shown, lo, hi, "but of", instants, !isIn(instants, lo, hi))
				}
			}
		}
	}
	r := rand.New(rand.NewSource(20))
	for range 200000 {
		rate, shown := anyRate(r), anyInstant(r, last>>r.Intn(32))
		lo, hi, _ := clock.Passed(rate, shown)
		for _, instants := range []int{lo - 1, lo, lo + r.Intn(hi-lo+1), hi, hi + 1} {
			if instants >= 0 && isIn(instants, lo, hi) != canShow(rate, shown, instants) {
				t.Fatal("P14.8: Passed of", rate, shown, lo, hi, "but of", instants, !isIn(instants, lo, hi))
			}
		}
	}
}

// drift is a clock in the world: its rate, the true instant, and its value in millionths.
type drift struct{ rate, instant, value int }

// anyDrift is a clock at a true instant, with a value that may be far from it.
func anyDrift(r *rand.Rand, instant int) drift {
	return drift{rate: anyRate(r), instant: instant, value: r.Intn(1000000000)*1000 + r.Intn(1000)}
}

// pass lets a clock go on for so many instants, at its slowest, at its fastest, or as it likes.
func (d *drift) pass(r *rand.Rand, instants int) {
	d.instant += instants
	d.value += instants * 1000000
	switch most := instants * d.rate; r.Intn(3) {
	case 0:
		d.value -= most
	case 1:
		d.value += most
	default:
		d.value += r.Intn(2*most+1) - most
	}
}

// shows is what the clock shows.
func (d *drift) shows() int { return d.value / 1000000 }

// around is a range of instants in which the true one is.
func (d *drift) around(r *rand.Rand, wide int) api.When {
	return api.When{Lo: max(0, d.instant-r.Intn(wide)), Hi: min(last, d.instant+r.Intn(wide))}
}

// TestExactClocks lets clocks go, instant by instant, and checks that Passed allows what they show.
func TestExactClocks(t *testing.T) {
	r := rand.New(rand.NewSource(21))
	for range 300 {
		d := anyDrift(r, 0)
		shown := []int{d.shows()}
		for range 60 {
			d.pass(r, 1)
			for k, first := range append(shown, d.shows()) {
				lo, hi, e := clock.Passed(d.rate, d.shows()-first)
				if passed := d.instant - k; !isIn(passed, lo, hi) || e != api.OK {
					t.Fatal("P14.8: Passed of", d.rate, d.shows()-first, lo, hi, e, "but", passed, "have")
				}
			}
			shown = append(shown, d.shows())
		}
	}
}

// moment is what a clock showed at an instant.
type moment struct{ shown, instant int }

// house is a house with a clock, what it knows of it, and what the clock has shown.
type house struct {
	drift
	c    api.Clock
	past []moment
}

// pass lets the clock of a house go on.
func (h *house) pass(r *rand.Rand, instants int) {
	h.drift.pass(r, instants)
	h.past = append(h.past, moment{h.shows(), h.instant})
}

// sync gives the house a reading, unless its clock has not gone on since the last one.
func (h *house) sync(t *testing.T, read api.Reading) {
	t.Helper()
	if n := len(h.c.Reads); n > 0 && h.c.Reads[n-1].Local == read.Local {
		if _, e := clock.Sync(h.c, read); e != api.ErrStale {
			t.Fatal("P14.4: Sync of", h.c, read, e)
		}
		return
	}
	c, e := clock.Sync(h.c, read)
	if e != api.OK {
		t.Fatal("P14.9: Sync of", h.c, read, e, "but the true instant is", h.instant)
	}
	if e = clock.Check(c); e != api.OK {
		t.Fatal("P14.9: Check of", c, e)
	}
	h.c = c
}

// checkPast checks that the house knows when its clock showed what it has shown.
func (h *house) checkPast(t *testing.T) {
	t.Helper()
	for _, m := range h.past {
		if w, e := clock.Now(h.c, m.shown); e != api.OK || !isIn(m.instant, w.Lo, w.Hi) {
			t.Fatal("P14.9: Now of", h.c, m.shown, w, e, "but it was", m.instant)
		}
	}
	for _, read := range h.c.Reads {
		// The reading is of an instant at which the clock showed this value.
		if !slices.ContainsFunc(h.past, func(m moment) bool { return m.shown == read.Local && isIn(m.instant, read.When.Lo, read.When.Hi) }) {
			t.Fatal("P14.9: the reading", read, "is not true")
		}
	}
}

// checkDue checks that it is certain, at what the clock showed, whether an instant had passed or come.
func (h *house) checkDue(t *testing.T, due int) {
	t.Helper()
	latest, e := clock.Latest(h.c, due)
	earliest, f := clock.Earliest(h.c, due)
	for _, m := range h.past {
		if e == api.OK && m.shown <= latest && m.instant > due {
			t.Fatal("P14.10: Latest of", h.c, due, latest, "but at", m.shown, "it was", m.instant)
		}
		if f == api.OK && m.shown >= earliest && m.instant < due {
			t.Fatal("P14.10: Earliest of", h.c, due, earliest, "but at", m.shown, "it was", m.instant)
		}
	}
}

// TestSound lets houses look at true times, and ask each other, while their clocks drift.
func TestSound(t *testing.T) {
	r := rand.New(rand.NewSource(22))
	full := 0
	for range 400 {
		begin := r.Intn(2) * r.Intn(1000000)
		houses := make([]house, 2+r.Intn(2))
		for k := range houses {
			houses[k].drift = anyDrift(r, begin)
			houses[k].c.Rate = houses[k].rate + r.Intn(2)*r.Intn(api.MaxRate-houses[k].rate+1)
		}
		longest := 1 << (1 + r.Intn(16))
		pass := func() {
			instants := r.Intn(longest)
			if r.Intn(4) == 0 {
				instants = r.Intn(2)
			}
			for k := range houses {
				houses[k].pass(r, instants)
			}
		}
		for range 60 {
			pass()
			h, other := &houses[r.Intn(len(houses))], &houses[r.Intn(len(houses))]
			if r.Intn(3) == 0 {
				h.sync(t, api.Reading{Local: h.shows(), When: h.around(r, 1+r.Intn(longest))})
				continue
			}
			sent := h.shows()
			pass()
			remote, e := clock.Now(other.c, other.shows())
			if e != api.OK || !isIn(other.instant, remote.Lo, remote.Hi) {
				t.Fatal("P14.9: Now of", other.c, other.shows(), remote, e, "but it is", other.instant)
			}
			pass()
			read, e := clock.Answer(h.c, sent, h.shows(), remote)
			if e != api.OK || !isIn(h.instant, read.When.Lo, read.When.Hi) {
				t.Fatal("P14.9: Answer of", h.c, sent, h.shows(), remote, read, e, "but it is", h.instant)
			}
			h.sync(t, read)
		}
		for k := range houses {
			h := &houses[k]
			h.checkPast(t)
			for range 5 {
				h.checkDue(t, h.past[r.Intn(len(h.past))].instant)
			}
			if len(h.c.Reads) == api.MaxReads {
				full++
			}
		}
	}
	if full < 100 {
		t.Error("too few full clocks", full)
	}
}

// TestSoundAtTheEnd checks true readings close to the first and the last instant.
func TestSoundAtTheEnd(t *testing.T) {
	r := rand.New(rand.NewSource(23))
	for range 2000 {
		h := house{drift: anyDrift(r, []int{0, last - 300}[r.Intn(2)])}
		h.c.Rate = h.rate
		for range 20 {
			h.pass(r, r.Intn(15))
			if r.Intn(2) == 0 {
				h.sync(t, api.Reading{Local: h.shows(), When: h.around(r, 20)})
				continue
			}
			sent, remote := h.shows(), h.around(r, 20)
			h.pass(r, r.Intn(2))
			read, e := clock.Answer(h.c, sent, h.shows(), remote)
			if e != api.OK {
				t.Fatal("P14.9: Answer of", h.c, sent, h.shows(), remote, e)
			}
			h.sync(t, read)
		}
		h.checkPast(t)
		h.checkDue(t, r.Intn(300))
		h.checkDue(t, last-r.Intn(300))
	}
}

// within says whether a range is no wider than another one, at either end.
func within(w, wide api.When) bool { return wide.Lo <= w.Lo && w.Hi <= wide.Hi }

// TestBoundsNeverDecrease compares the ranges of values, one after the other.
func TestBoundsNeverDecrease(t *testing.T) {
	try := func(c api.Clock, locals []int) {
		var before api.When
		slices.Sort(locals)
		for _, local := range locals {
			w, e := clock.Now(c, local)
			if e == api.ErrConflict {
				continue
			}
			if e != api.OK || w.Lo < before.Lo || w.Hi < before.Hi {
				t.Fatal("P14.10: Now of", c, local, w, e, "but before", before)
			}
			before = w
		}
	}
	each(t, 24, 500, small, func(_ *rand.Rand, c api.Clock) {
		var locals []int
		for local := range 600 {
			locals = append(locals, local)
		}
		try(c, locals)
	})
	each(t, 25, 5000, great, func(r *rand.Rand, c api.Clock) {
		var locals []int
		for range 30 {
			locals = append(locals, anyLocal(r, c))
		}
		try(c, locals)
	})
}

// moreOf is a clock with one more reading, somewhere between the others, or with one that is narrower.
func moreOf(r *rand.Rand, c api.Clock) api.Clock {
	more := copied(c)
	if n := len(c.Reads); n == api.MaxReads || n > 0 && r.Intn(2) == 0 {
		w := &more.Reads[r.Intn(n)].When
		w.Lo += r.Intn(min(w.Hi-w.Lo, 30) + 1)
		w.Hi -= r.Intn(min(w.Hi-w.Lo, 30) + 1)
		return more
	}
	read := api.Reading{Local: anyLocal(r, c)}
	if slices.ContainsFunc(c.Reads, func(old api.Reading) bool { return old.Local == read.Local }) {
		return more
	}
	now, e := clock.Now(c, read.Local)
	if e != api.OK {
		now = anyRange(r, last)
	}
	read.When = api.When{Lo: max(0, now.Lo-10+r.Intn(20)), Hi: min(last, now.Hi+10)}
	more.Reads = append(more.Reads, read)
	slices.SortFunc(more.Reads, func(a, b api.Reading) int { return a.Local - b.Local })
	return more
}

// TestMoreIsKnown checks that more readings, or narrower ones, make no range wider, and no certain value uncertain.
func TestMoreIsKnown(t *testing.T) {
	narrower := 0
	try := func(r *rand.Rand, c api.Clock) {
		more := moreOf(r, c)
		if clock.Check(more) != api.OK {
			return
		}
		for range 10 {
			local := anyLocal(r, more)
			w, e := clock.Now(c, local)
			v, f := clock.Now(more, local)
			if e == api.ErrConflict && f != e || f == api.OK && !within(v, w) {
				t.Fatal("P14.10: Now of", c, local, w, e, "but with more readings", more, v, f)
			}
			if v != w {
				narrower++
			}
		}
		due := anyInstant(r, last)
		if lower, upper := wantBounds(c, anyLocal(r, c)); r.Intn(3) > 0 {
			due = min(max([]int{lower, upper}[r.Intn(2)], 0), last)
		}
		a, e := clock.Latest(c, due)
		if b, f := clock.Latest(more, due); e == api.OK && (f != api.OK || b < a) {
			t.Fatal("P14.10: Latest of", c, due, a, "but with more readings", more, b, f)
		}
		a, e = clock.Earliest(c, due)
		if b, f := clock.Earliest(more, due); e == api.OK && (f != api.OK || b > a) {
			t.Fatal("P14.10: Earliest of", c, due, a, "but with more readings", more, b, f)
		}
	}
	each(t, 26, 5000, small, try)
	each(t, 27, 5000, great, try)
	if narrower < 1000 {
		t.Error("too few ranges that got narrower", narrower)
	}
}

// TestSyncIsKnown checks that Sync makes no range wider, as long as it drops no reading.
func TestSyncIsKnown(t *testing.T) {
	synced := 0
	each(t, 28, 10000, small, func(r *rand.Rand, c api.Clock) {
		local := r.Intn(600)
		now, e := clock.Now(c, local)
		if e != api.OK {
			return
		}
		read := api.Reading{Local: local, When: api.When{Lo: max(0, now.Lo-3+r.Intn(6)), Hi: min(last, now.Hi+3)}}
		d, e := clock.Sync(c, read)
		if e != api.OK {
			return
		}
		synced++
		if w := d.Reads[len(d.Reads)-1].When; !within(w, now) || !within(w, read.When) {
			t.Fatal("P14.4: Sync of", c, read, w, "but Now is", now)
		}
		for range 10 {
			at := r.Intn(1000)
			w, e := clock.Now(c, at)
			if v, f := clock.Now(d, at); e == api.ErrConflict && f != e || f == api.OK && !within(v, w) {
				t.Fatal("P14.10: Now of", c, at, w, e, "but after Sync", read, v, f)
			}
		}
	})
	if synced < 1000 {
		t.Error("too few readings that fit", synced)
	}
}
