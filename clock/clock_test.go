package clock_test

import (
	"math"
	"math/rand"
	"slices"
	"testing"

	"quietus/api"
	"quietus/clock"
)

// TestExamples checks the examples of the chapter.
func TestExamples(t *testing.T) {
	c := example()
	for shown, want := range map[int]api.When{0: {Lo: 0, Hi: 1}, 1: {Lo: 1, Hi: 2}, 11: {Lo: 10, Hi: 13}} {
		if lo, hi, e := clock.Passed(c.Rate, shown); lo != want.Lo || hi != want.Hi || e != api.OK {
			t.Error("P14.2: Passed of", shown, lo, hi, e)
		}
	}
	for local, want := range map[int]api.When{111: {Lo: 60, Hi: 73}, 89: {Lo: 37, Hi: 50}, 100: {Lo: 49, Hi: 61}} {
		if w, e := clock.Now(c, local); w != want || e != api.OK {
			t.Error("P14.3: Now of", local, w, e)
		}
	}
	want := api.Clock{Rate: 100000, Reads: append(example().Reads, api.Reading{Local: 111, When: api.When{Lo: 70, Hi: 73}})}
	if d, e := clock.Sync(c, api.Reading{Local: 111, When: api.When{Lo: 70, Hi: 80}}); !equal(d, want) || e != api.OK {
		t.Error("P14.4: Sync of 70 to 80", d, e)
	}
	if d, e := clock.Sync(c, api.Reading{Local: 111, When: api.When{Lo: 74, Hi: 80}}); !equal(d, api.Clock{}) || e != api.ErrConflict {
		t.Error("P14.4: Sync of 74 to 80", d, e)
	}
	if r, e := clock.Answer(c, 100, 109, api.When{Lo: 55, Hi: 57}); r != (api.Reading{Local: 109, When: api.When{Lo: 55, Hi: 68}}) || e != api.OK {
		t.Error("P14.5: Answer", r, e)
	}
	if n, e := clock.Latest(c, 73); n != 111 || e != api.OK {
		t.Error("P14.7: Latest", n, e)
	}
	if n, e := clock.Earliest(c, 60); n != 111 || e != api.OK {
		t.Error("P14.7: Earliest", n, e)
	}
}

// checkError calls all functions that are given a clock, and checks that each returns an error, and nothing else but it; api.OK stands for none.
func checkError(t *testing.T, name string, c api.Clock, want api.Errno) {
	t.Helper()
	if e := clock.Check(c); e != want {
		t.Error("P14.1: Check of", name, e, "and not", want)
	}
	if want == api.OK {
		return
	}
	// Also with other arguments that are wrong.
	for _, n := range []int{0, 100, last, -1, last + 1} {
		w, e0 := clock.Now(c, n)
		d, e1 := clock.Sync(c, api.Reading{Local: n, When: api.When{Lo: 3, Hi: 5}})
		r, e2 := clock.Answer(c, n, n, api.When{Lo: 3, Hi: 5})
		latest, e3 := clock.Latest(c, n)
		earliest, e4 := clock.Earliest(c, n)
		for k, e := range []api.Errno{e0, e1, e2, e3, e4} {
			if e != want {
				t.Error("P14.1: function", k, "with", name, n, e, "and not", want)
			}
		}
		if w != (api.When{}) || !equal(d, api.Clock{}) || r != (api.Reading{}) || latest != 0 || earliest != 0 {
			t.Error("P14.1: results with", name, n, w, d, r, latest, earliest)
		}
	}
	if _, e := clock.Sync(c, api.Reading{Local: 3, When: api.When{Lo: 5, Hi: 3}}); e != want {
		t.Error("P14.1: Sync of a wrong range with", name, e, "and not", want)
	}
	if _, e := clock.Answer(c, 3, 3, api.When{Lo: 5, Hi: 3}); e != want {
		t.Error("P14.1: Answer of a wrong range with", name, e, "and not", want)
	}
}

// reads are so many readings that do not contradict each other.
func reads(many int) []api.Reading {
	var l []api.Reading
	for k := range many {
		l = append(l, api.Reading{Local: 10 * k, When: api.When{Lo: 10 * k, Hi: 10*k + 5}})
	}
	return l
}

// TestCheck checks each error, alone and together with later ones, and clocks that are just right.
func TestCheck(t *testing.T) {
	for _, x := range []struct {
		name   string
		change func(c *api.Clock)
		want   api.Errno
	}{
		{"the example", func(c *api.Clock) {}, api.OK},
		{"the zero value", func(c *api.Clock) { *c = api.Clock{} }, api.OK},
		{"no readings", func(c *api.Clock) { c.Reads = []api.Reading{} }, api.OK},
		{"a rate of 0", func(c *api.Clock) { c.Rate = 0 }, api.OK},
		{"a negative rate", func(c *api.Clock) { c.Rate = -1 }, api.ErrRange},
		{"the least number as a rate", func(c *api.Clock) { c.Rate = math.MinInt }, api.ErrRange},
		{"a rate that is too great", func(c *api.Clock) { c.Rate = 100001 }, api.ErrRange},
		{"a rate of a whole unit", func(c *api.Clock) { c.Rate = 1000000 }, api.ErrRange},
		{"the greatest number as a rate", func(c *api.Clock) { c.Rate = math.MaxInt }, api.ErrRange},
		{"a wrong rate, and too many readings", func(c *api.Clock) { c.Rate, c.Reads = -1, reads(17) }, api.ErrRange},
		{"a wrong rate, and a wrong order", func(c *api.Clock) { c.Rate, c.Reads = 100001, append(c.Reads, c.Reads[0]) }, api.ErrRange},
		{"16 readings", func(c *api.Clock) { c.Reads = reads(16) }, api.OK},
		{"17 readings", func(c *api.Clock) { c.Reads = reads(17) }, api.ErrLimit},
		{"17 readings, the first one wrong", func(c *api.Clock) { c.Reads = reads(17); c.Reads[0].Local = -1 }, api.ErrLimit},
		{"17 readings in a wrong order", func(c *api.Clock) { c.Reads = make([]api.Reading, 17) }, api.ErrLimit},
		{"very many readings", func(c *api.Clock) { c.Reads = make([]api.Reading, 1<<16) }, api.ErrLimit},
		{"a value of 0", func(c *api.Clock) { c.Reads[0].Local = 0 }, api.OK},
		{"a negative value", func(c *api.Clock) { c.Reads[0].Local = -1 }, api.ErrRange},
		{"the least number as a value", func(c *api.Clock) { c.Reads[0].Local = math.MinInt }, api.ErrRange},
		{"the greatest value", func(c *api.Clock) { c.Reads[0].Local = last }, api.OK},
		{"a value that is too great", func(c *api.Clock) { c.Reads[0].Local = last + 1 }, api.ErrRange},
		{"the greatest number as a value", func(c *api.Clock) { c.Reads[0].Local = math.MaxInt }, api.ErrRange},
		{"one instant", func(c *api.Clock) { c.Reads[0].When.Lo = 60 }, api.OK},
		{"an empty range", func(c *api.Clock) { c.Reads[0].When.Lo = 61 }, api.ErrRange},
		{"an instant before the first one", func(c *api.Clock) { c.Reads[0].When.Lo = -1 }, api.ErrRange},
		{"only instants before the first one", func(c *api.Clock) { c.Reads[0].When = api.When{Lo: -2, Hi: -1} }, api.ErrRange},
		{"all instants", func(c *api.Clock) { c.Reads[0].When = api.When{Lo: 0, Hi: last} }, api.OK},
		{"the last instant", func(c *api.Clock) { c.Reads[0].When = api.When{Lo: last, Hi: last} }, api.OK},
		{"an instant after the last one", func(c *api.Clock) { c.Reads[0].When.Hi = last + 1 }, api.ErrRange},
		{"only instants after the last one", func(c *api.Clock) { c.Reads[0].When = api.When{Lo: last + 1, Hi: last + 2} }, api.ErrRange},
		{"all numbers as a range", func(c *api.Clock) { c.Reads[0].When = api.When{Lo: math.MinInt, Hi: math.MaxInt} }, api.ErrRange},
		{"values one apart", func(c *api.Clock) { c.Reads = append(c.Reads, api.Reading{Local: 101}) }, api.OK},
		{"two readings that are the same", func(c *api.Clock) { c.Reads = append(c.Reads, c.Reads[0]) }, api.ErrArg},
		{"two readings of 0", func(c *api.Clock) { c.Reads = make([]api.Reading, 2) }, api.ErrArg},
		{"a value that is less than the one before", func(c *api.Clock) { c.Reads = append(c.Reads, api.Reading{Local: 99}) }, api.ErrArg},
		{"a value that is less than the first one", func(c *api.Clock) { c.Reads = append(c.Reads, api.Reading{Local: 200}, api.Reading{Local: 150}) }, api.ErrArg},
		{"a wrong range in a wrong order", func(c *api.Clock) {
			c.Reads = append(c.Reads, api.Reading{Local: 99, When: api.When{Lo: 1}})
		}, api.ErrRange},
		{"a wrong range after a wrong order", func(c *api.Clock) {
			c.Reads = append(c.Reads, api.Reading{Local: 99}, api.Reading{Local: 120, When: api.When{Lo: 1}})
		}, api.ErrArg},
		{"a wrong order after a wrong range", func(c *api.Clock) {
			c.Reads = append(c.Reads, api.Reading{Local: 120, When: api.When{Lo: 1}}, api.Reading{Local: 99})
		}, api.ErrRange},
		{"readings that contradict each other", func(c *api.Clock) { c.Reads = append(c.Reads, api.Reading{Local: 101}) }, api.OK},
		{"a last one of 16 that is wrong", func(c *api.Clock) { c.Reads = reads(16); c.Reads[15].When.Hi = 0 }, api.ErrRange},
		{"a last one of 16 in a wrong order", func(c *api.Clock) { c.Reads = reads(16); c.Reads[15].Local = 140 }, api.ErrArg},
	} {
		c := example()
		x.change(&c)
		checkError(t, x.name, c, x.want)
	}
}

// TestPassed compares Passed with what the chapter says.
func TestPassed(t *testing.T) {
	try := func(rate, shown int) {
		lo, hi, e := clock.Passed(rate, shown)
		if wantLo, wantHi := wantPassed(rate, shown); lo != wantLo || hi != wantHi || e != api.OK {
			t.Fatal("P14.2: Passed of", rate, shown, lo, hi, e, "and not", wantLo, wantHi)
		}
	}
	for _, rate := range someRates {
		for shown := range 3000 {
			try(rate, shown)
			try(rate, last-shown)
		}
	}
	r := rand.New(rand.NewSource(1))
	for range 100000 {
		try(anyRate(r), anyInstant(r, last>>r.Intn(32)))
	}
	for _, x := range []struct{ rate, shown, lo, hi int }{
		{0, 0, 0, 0}, {0, 1, 1, 1}, {0, 2, 2, 2}, {0, last, last, last},
		{1, 0, 0, 1}, {1, 1, 1, 2}, {1, 999999, 999998, 1000001}, {1, 1000001, 1000000, 1000003}, {1, 1000002, 1000001, 1000004},
		{100000, 8, 7, 9}, {100000, 9, 8, 11}, {100000, 12, 11, 14},
		{100000, last, 3272727272, 4000000001},
	} {
		if lo, hi, e := clock.Passed(x.rate, x.shown); lo != x.lo || hi != x.hi || e != api.OK {
			t.Error("P14.2: Passed of", x, lo, hi, e)
		}
	}
}

// TestPassedErrors checks all pairs of numbers, many of which are no rates and no values.
func TestPassedErrors(t *testing.T) {
	for _, rate := range someNumbers {
		for _, shown := range someNumbers {
			lo, hi, e := clock.Passed(rate, shown)
			if isIn(rate, 0, 100000) && isIn(shown, 0, last) {
				if wantLo, wantHi := wantPassed(rate, shown); lo != wantLo || hi != wantHi || e != api.OK {
					t.Error("P14.2: Passed of", rate, shown, lo, hi, e)
				}
			} else if lo != 0 || hi != 0 || e != api.ErrRange {
				t.Error("P14.2: Passed of", rate, shown, lo, hi, e)
			}
		}
	}
}

// TestNow compares Now with what the chapter says.
func TestNow(t *testing.T) {
	seen := map[api.Errno]int{}
	try := func(c api.Clock, local int) {
		w, e := clock.Now(c, local)
		want, wantE := wantNow(c, local)
		if seen[e]++; w != want || e != wantE {
			t.Fatal("P14.3: Now of", c, local, w, e, "and not", want, wantE)
		}
	}
	each(t, 2, 3000, small, func(_ *rand.Rand, c api.Clock) {
		for local := range 300 {
			try(c, local)
		}
	})
	each(t, 3, 20000, great, func(r *rand.Rand, c api.Clock) {
		for range 20 {
			try(c, anyLocal(r, c))
		}
		try(c, someNumbers[r.Intn(len(someNumbers))])
	})
	enough(t, seen, 5000, api.OK, api.ErrRange, api.ErrConflict)
}

// TestFirstAndLastInstants checks clocks whose readings would allow numbers that are no instants.
func TestFirstAndLastInstants(t *testing.T) {
	at := func(local, lo, hi int) []api.Reading {
		return []api.Reading{{Local: local, When: api.When{Lo: lo, Hi: hi}}}
	}
	for _, x := range []struct {
		name  string
		c     api.Clock
		local int
		want  api.When
		e     api.Errno
	}{
		{"no reading", api.Clock{}, 0, api.When{Lo: 0, Hi: last}, api.OK},
		{"no reading, at the end", api.Clock{Rate: 7}, last, api.When{Lo: 0, Hi: last}, api.OK},
		{"no reading, after the end", api.Clock{Rate: 7}, last + 1, api.When{}, api.ErrRange},
		{"no reading, before the beginning", api.Clock{Rate: 7}, -1, api.When{}, api.ErrRange},
		{"the reading itself, exactly", api.Clock{Reads: at(5, 3, 4)}, 5, api.When{Lo: 3, Hi: 4}, api.OK},
		{"the reading itself, of the first instant", api.Clock{Rate: 100000, Reads: at(5, 0, 0)}, 5, api.When{Lo: 0, Hi: 1}, api.OK},
		{"the reading itself, of the last instant", api.Clock{Rate: 100000, Reads: at(5, last, last)}, 5, api.When{Lo: last - 1, Hi: last}, api.OK},
		{"one unit before the first instant", api.Clock{Reads: at(5, 0, 0)}, 4, api.When{}, api.ErrConflict},
		{"just the first instant", api.Clock{Reads: at(5, 0, 3)}, 2, api.When{}, api.OK},
		{"before the first instant", api.Clock{Reads: at(5, 0, 3)}, 1, api.When{}, api.ErrConflict},
		{"one unit after the last instant", api.Clock{Reads: at(5, last, last)}, 6, api.When{}, api.ErrConflict},
		{"just the last instant", api.Clock{Reads: at(5, last-3, last)}, 8, api.When{Lo: last, Hi: last}, api.OK},
		{"after the last instant", api.Clock{Reads: at(5, last-3, last)}, 9, api.When{}, api.ErrConflict},
		{"the last value, from the first one", api.Clock{Rate: 100000, Reads: at(0, 0, 0)}, last, api.When{Lo: 3272727272, Hi: last}, api.OK},
		{"the first value, from the last one", api.Clock{Rate: 100000, Reads: at(last, last, last)}, 0, api.When{Lo: 0, Hi: 327272728}, api.OK},
		{"a contradiction, at a value that is none", api.Clock{Reads: append(at(5, 3, 3), at(6, 9, 9)...)}, last + 1, api.When{}, api.ErrRange},
		{"a contradiction", api.Clock{Reads: append(at(5, 3, 3), at(6, 9, 9)...)}, 5, api.When{}, api.ErrConflict},
		{"of three readings, one tells the beginning, and one the end", api.Clock{Reads: append(at(5, 5, 90), append(at(6, 0, 20), at(7, 3, 50)...)...)}, 9, api.When{Lo: 9, Hi: 23}, api.OK},
	} {
		if w, e := clock.Now(x.c, x.local); w != x.want || e != x.e {
			t.Error("P14.3: Now of", x.name, w, e, "and not", x.want, x.e)
		}
	}
}

// TestSync compares Sync with what the chapter says.
func TestSync(t *testing.T) {
	seen, dropped := map[api.Errno]int{}, 0
	try := func(r *rand.Rand, c api.Clock) {
		for range 5 {
			read := api.Reading{Local: anyLocal(r, c)}
			if n := len(c.Reads); n > 0 && r.Intn(3) > 0 {
				read.Local = min(last, c.Reads[n-1].Local+r.Intn(1000))
			}
			read.When = anyRange(r, last)
			if w, e := wantNow(c, read.Local); e == api.OK && r.Intn(4) > 0 {
				read.When = api.When{Lo: max(0, w.Lo+r.Intn(7)-3), Hi: min(last, w.Hi+r.Intn(7)-3)}
			}
			switch r.Intn(30) {
			case 0:
				read.Local = someNumbers[r.Intn(len(someNumbers))]
			case 1:
				read.When.Lo = someNumbers[r.Intn(len(someNumbers))]
			case 2:
				read.When.Hi = someNumbers[r.Intn(len(someNumbers))]
			}
			d, e := clock.Sync(c, read)
			want, wantE := wantSync(c, read)
			if seen[e]++; !equal(d, want) || e != wantE {
				t.Fatal("P14.4: Sync of", c, read, d, e, "and not", want, wantE)
			}
			if e == api.OK && len(c.Reads) == api.MaxReads {
				dropped++
			}
			if e == api.OK && r.Intn(2) == 0 {
				return
			}
		}
	}
	each(t, 4, 10000, small, try)
	each(t, 5, 20000, great, try)
	each(t, 6, 5000, func(r *rand.Rand) api.Clock {
		c := calmClock(r, 40, last>>r.Intn(10))
		c.Reads = c.Reads[:min(len(c.Reads), api.MaxReads)] // often full
		return c
	}, try)
	enough(t, seen, 1000, api.OK, api.ErrRange, api.ErrStale, api.ErrConflict)
	if dropped < 100 {
		t.Error("too few full clocks", dropped)
	}
}

// TestSyncErrors checks the order of the errors of Sync.
func TestSyncErrors(t *testing.T) {
	torn := example()
	torn.Reads = append(torn.Reads, api.Reading{Local: 101, When: api.When{Lo: 1000, Hi: 1000}})
	for _, x := range []struct {
		name string
		c    api.Clock
		r    api.Reading
		want api.Errno
	}{
		{"a reading that fits", example(), api.Reading{Local: 101, When: api.When{Lo: 50, Hi: 62}}, api.OK},
		{"a wrong value", example(), api.Reading{Local: -1, When: api.When{Lo: 50, Hi: 62}}, api.ErrRange},
		{"a value that is too great", example(), api.Reading{Local: last + 1, When: api.When{Lo: 50, Hi: 62}}, api.ErrRange},
		{"an empty range", example(), api.Reading{Local: 101, When: api.When{Lo: 56, Hi: 55}}, api.ErrRange},
		{"a range from before the first instant", example(), api.Reading{Local: 101, When: api.When{Lo: -1, Hi: 62}}, api.ErrRange},
		{"a range until after the last instant", example(), api.Reading{Local: 101, When: api.When{Lo: 50, Hi: last + 1}}, api.ErrRange},
		{"an empty range of an old value", example(), api.Reading{Local: 99, When: api.When{Lo: 56, Hi: 55}}, api.ErrRange},
		{"an empty range, and readings that contradict each other", torn, api.Reading{Local: 102, When: api.When{Lo: 56, Hi: 55}}, api.ErrRange},
		{"the same value again", example(), api.Reading{Local: 100, When: api.When{Lo: 50, Hi: 60}}, api.ErrStale},
		{"an older value", example(), api.Reading{Local: 99, When: api.When{Lo: 50, Hi: 60}}, api.ErrStale},
		{"the first value", example(), api.Reading{}, api.ErrStale},
		{"an older value that does not fit", example(), api.Reading{Local: 99, When: api.When{Lo: 500, Hi: 600}}, api.ErrStale},
		{"a value between the readings, which contradict each other", torn, api.Reading{Local: 101, When: api.When{Lo: 500, Hi: 600}}, api.ErrStale},
		{"readings that contradict each other", torn, api.Reading{Local: 102, When: api.When{Lo: 0, Hi: last}}, api.ErrConflict},
		{"a reading that is too early", example(), api.Reading{Local: 111, When: api.When{Lo: 0, Hi: 59}}, api.ErrConflict},
		{"a reading that is just early enough", example(), api.Reading{Local: 111, When: api.When{Lo: 0, Hi: 60}}, api.OK},
		{"a reading that is too late", example(), api.Reading{Local: 111, When: api.When{Lo: 74, Hi: last}}, api.ErrConflict},
		{"a reading that is just late enough", example(), api.Reading{Local: 111, When: api.When{Lo: 73, Hi: last}}, api.OK},
		{"a first reading", api.Clock{Rate: 5}, api.Reading{}, api.OK},
		{"the last value", api.Clock{Rate: 5}, api.Reading{Local: last, When: api.When{Lo: last, Hi: last}}, api.OK},
	} {
		if d, e := clock.Sync(x.c, x.r); e != x.want || e != api.OK && !equal(d, api.Clock{}) {
			t.Error("P14.4: Sync of", x.name, d, e, "and not", x.want)
		}
	}
}

// TestFullClock checks that the first reading of a full clock counts before it is dropped.
func TestFullClock(t *testing.T) {
	c := api.Clock{Reads: []api.Reading{{Local: 1, When: api.When{Lo: 20, Hi: 30}}}}
	for k := range api.MaxReads - 1 {
		c.Reads = append(c.Reads, api.Reading{Local: 2 + k, When: api.When{Lo: 0, Hi: last}})
	}
	d, e := clock.Sync(c, api.Reading{Local: 41, When: api.When{Lo: 65, Hi: 99}})
	want := api.Clock{Reads: append(slices.Clone(c.Reads[1:]), api.Reading{Local: 41, When: api.When{Lo: 65, Hi: 70}})}
	if !equal(d, want) || e != api.OK {
		t.Error("P14.4: Sync of a full clock", d, e)
	}
	if d, e = clock.Sync(c, api.Reading{Local: 41, When: api.When{Lo: 71, Hi: 99}}); !equal(d, api.Clock{}) || e != api.ErrConflict {
		t.Error("P14.4: Sync of a full clock, against its first reading", d, e)
	}
	fifteen := api.Clock{Reads: c.Reads[:15]}
	d, e = clock.Sync(fifteen, api.Reading{Local: 41, When: api.When{Lo: 65, Hi: 99}})
	want = api.Clock{Reads: append(slices.Clone(c.Reads[:15]), api.Reading{Local: 41, When: api.When{Lo: 65, Hi: 70}})}
	if !equal(d, want) || e != api.OK {
		t.Error("P14.4: Sync of 15 readings", d, e)
	}
}

// TestAnswer compares Answer with what the chapter says.
func TestAnswer(t *testing.T) {
	seen := map[api.Errno]int{}
	each(t, 7, 20000, great, func(r *rand.Rand, c api.Clock) {
		sent := anyInstant(r, last)
		got, remote := sent+anyInstant(r, last-sent), anyRange(r, last)
		number := someNumbers[r.Intn(len(someNumbers))]
		switch r.Intn(8) {
		case 0:
			sent = number
		case 1:
			got = number
		case 2:
			remote.Lo = number
		case 3:
			remote.Hi = number
		case 4:
			got = sent + r.Intn(5) - 2
		}
		read, e := clock.Answer(c, sent, got, remote)
		want, wantE := wantAnswer(c, sent, got, remote)
		if seen[e]++; read != want || e != wantE {
			t.Fatal("P14.5: Answer of", c, sent, got, remote, read, e, "and not", want, wantE)
		}
	})
	enough(t, seen, 3000, api.OK, api.ErrRange)
	all := api.When{Lo: 0, Hi: last}
	for _, x := range []struct {
		rate, sent, got int
		remote          api.When
		want            api.Reading
		e               api.Errno
	}{
		{100000, 0, 0, api.When{}, api.Reading{When: api.When{Hi: 1}}, api.OK},
		{0, 7, 7, api.When{Lo: 3, Hi: 4}, api.Reading{Local: 7, When: api.When{Lo: 3, Hi: 4}}, api.OK},
		{0, 7, 9, api.When{Lo: 3, Hi: 4}, api.Reading{Local: 9, When: api.When{Lo: 3, Hi: 6}}, api.OK},
		{0, 7, 9, api.When{Lo: 3, Hi: last - 2}, api.Reading{Local: 9, When: api.When{Lo: 3, Hi: last}}, api.OK},
		{0, 7, 9, api.When{Lo: last, Hi: last}, api.Reading{Local: 9, When: api.When{Lo: last, Hi: last}}, api.OK},
		{100000, 0, last, all, api.Reading{Local: last, When: all}, api.OK},
		{100000, last, last, all, api.Reading{Local: last, When: all}, api.OK},
		{0, -1, 0, all, api.Reading{}, api.ErrRange},
		{0, 8, 7, all, api.Reading{}, api.ErrRange},
		{0, last, last + 1, all, api.Reading{}, api.ErrRange},
		{0, last + 1, last + 1, all, api.Reading{}, api.ErrRange},
		{0, 7, 7, api.When{Lo: 4, Hi: 3}, api.Reading{}, api.ErrRange},
		{0, 7, 7, api.When{Lo: -1, Hi: 3}, api.Reading{}, api.ErrRange},
		{0, 7, 7, api.When{Lo: 3, Hi: last + 1}, api.Reading{}, api.ErrRange},
	} {
		if read, e := clock.Answer(api.Clock{Rate: x.rate}, x.sent, x.got, x.remote); read != x.want || e != x.e {
			t.Error("P14.5: Answer of", x, read, e)
		}
	}
}

// TestAnswerOfTornClock checks that the readings do not matter for an answer.
func TestAnswerOfTornClock(t *testing.T) {
	c := api.Clock{Reads: []api.Reading{{Local: 5, When: api.When{Lo: 3, Hi: 3}}, {Local: 6, When: api.When{Lo: 900, Hi: 900}}}}
	if read, e := clock.Answer(c, 2, 4, api.When{Lo: 50, Hi: 60}); read != (api.Reading{Local: 4, When: api.When{Lo: 50, Hi: 62}}) || e != api.OK {
		t.Error("P14.5: Answer", read, e)
	}
}

// TestJoinAndOrder looks at all pairs of short ranges, instant by instant, and at some long ones.
func TestJoinAndOrder(t *testing.T) {
	const many = 6
	var ranges []api.When
	for lo := range many {
		for hi := lo; hi < many; hi++ {
			ranges = append(ranges, api.When{Lo: lo, Hi: hi})
		}
	}
	for _, a := range ranges {
		for _, b := range ranges {
			var both []int
			before, after := true, true
			for i := range many {
				if isIn(i, a.Lo, a.Hi) && isIn(i, b.Lo, b.Hi) {
					both = append(both, i)
				}
				for j := range many {
					if isIn(i, a.Lo, a.Hi) && isIn(j, b.Lo, b.Hi) {
						before, after = before && i < j, after && j < i
					}
				}
			}
			want, wantE := api.When{}, api.ErrConflict
			if len(both) > 0 {
				want, wantE = api.When{Lo: both[0], Hi: both[len(both)-1]}, api.OK
			}
			if w, e := clock.Join(a, b); w != want || e != wantE {
				t.Error("P14.6: Join of", a, b, w, e)
			}
			order := 0
			switch {
			case before:
				order = -1
			case after:
				order = 1
			}
			if by := clock.Order(a, b); by != order {
				t.Error("P14.6: Order of", a, b, by)
			}
		}
	}
	for _, x := range []struct {
		a, b api.When
		by   int
	}{
		{api.When{Lo: 0, Hi: 0}, api.When{Lo: last, Hi: last}, -1}, {api.When{Lo: 0, Hi: last - 1}, api.When{Lo: last, Hi: last}, -1}, {api.When{Lo: 0, Hi: last}, api.When{Lo: last, Hi: last}, 0}, {api.When{Lo: 1, Hi: last}, api.When{Lo: 0, Hi: 0}, 1},
	} {
		if by, yb := clock.Order(x.a, x.b), clock.Order(x.b, x.a); by != x.by || yb != -x.by {
			t.Error("P14.6: Order of", x.a, x.b, by, yb)
		}
	}
}

// TestJoinErrors checks all ranges between some numbers, most of which are not valid.
func TestJoinErrors(t *testing.T) {
	for _, lo := range someNumbers {
		for _, hi := range someNumbers {
			a := api.When{Lo: lo, Hi: hi}
			for _, b := range []api.When{{Lo: 0, Hi: last}, {Lo: 5, Hi: 5}, {Lo: 5, Hi: 4}, {Lo: -1, Hi: 4}, {Lo: 3, Hi: last + 1}, a} {
				want, wantE := wantJoin(a, b)
				if w, e := clock.Join(a, b); w != want || e != wantE {
					t.Error("P14.6: Join of", a, b, w, e)
				}
				if w, e := clock.Join(b, a); w != want || e != wantE {
					t.Error("P14.6: Join of", b, a, w, e)
				}
			}
		}
	}
}

// dues are instants that lie at the bounds of a clock, or anywhere.
func dues(r *rand.Rand, c api.Clock) []int {
	l := []int{0, last, anyInstant(r, last)}
	for range 4 {
		lower, upper := wantBounds(c, anyLocal(r, c))
		for _, n := range []int{lower, upper, lower + r.Intn(3) - 1, upper + r.Intn(3) - 1} {
			l = append(l, min(max(n, 0), last))
		}
	}
	return l
}

// TestLatestAndEarliest checks the values next to the results, and many others.
func TestLatestAndEarliest(t *testing.T) {
	latests, earliests := map[api.Errno]int{}, map[api.Errno]int{}
	try := func(r *rand.Rand, c api.Clock) {
		for _, due := range dues(r, c) {
			latest, e := clock.Latest(c, due)
			earliest, f := clock.Earliest(c, due)
			latests[e]++
			earliests[f]++
			if e != api.OK && (e != api.ErrNone || latest != 0) || f != api.OK && (f != api.ErrNone || earliest != 0) {
				t.Fatal("P14.7: Latest and Earliest of", c, due, latest, e, earliest, f)
			}
			if e != api.OK {
				latest = -1
			}
			if f != api.OK {
				earliest = last + 1
			}
			l := []int{0, last, anyInstant(r, last), latest, latest + 1, earliest - 1, earliest}
			for range 5 {
				l = append(l, anyLocal(r, c))
			}
			for _, local := range l {
				if !isIn(local, 0, last) {
					continue
				}
				lower, upper := wantBounds(c, local)
				if upper <= due != (local <= latest) {
					t.Fatal("P14.7: Latest of", c, due, latest, e, "but the upper bound of", local, "is", upper)
				}
				if lower >= due != (local >= earliest) {
					t.Fatal("P14.7: Earliest of", c, due, earliest, f, "but the lower bound of", local, "is", lower)
				}
			}
		}
	}
	each(t, 8, 3000, small, try)
	each(t, 9, 3000, great, try)
	enough(t, latests, 1000, api.OK, api.ErrNone)
	enough(t, earliests, 1000, api.OK, api.ErrNone)
}

// TestLatestAndEarliestByScan looks at all values around the readings.
func TestLatestAndEarliestByScan(t *testing.T) {
	each(t, 10, 300, func(r *rand.Rand) api.Clock { return calmClock(r, 4, 60) }, func(_ *rand.Rand, c api.Clock) {
		for due := range 60 {
			latest, earliest := -1, -1
			for local := range 200 {
				lower, upper := wantBounds(c, local)
				if upper <= due {
					latest = local
				}
				if lower >= due && earliest < 0 {
					earliest = local
				}
			}
			if n, e := clock.Latest(c, due); latest >= 0 && (n != latest || e != api.OK) || latest < 0 && (n != 0 || e != api.ErrNone) {
				t.Fatal("P14.7: Latest of", c, due, n, e, "and not", latest)
			}
			if n, e := clock.Earliest(c, due); earliest >= 0 && (n != earliest || e != api.OK) || earliest < 0 && len(c.Reads) > 0 {
				t.Fatal("P14.7: Earliest of", c, due, n, e, "and not", earliest)
			}
		}
	})
}

// TestLatestAndEarliestEdges checks the first and the last values and instants, errors, and clocks that contradict themselves.
func TestLatestAndEarliestEdges(t *testing.T) {
	exact := func(local, instant int) api.Clock {
		return api.Clock{Reads: []api.Reading{{Local: local, When: api.When{Lo: instant, Hi: instant}}}}
	}
	torn := api.Clock{Reads: []api.Reading{{Local: 5, When: api.When{Lo: 300, Hi: 300}}, {Local: 6, When: api.When{Lo: 9, Hi: 9}}}}
	for _, x := range []struct {
		name             string
		c                api.Clock
		due              int
		latest, earliest int
		e, f             api.Errno
	}{
		{"no reading, the first instant", api.Clock{}, 0, 0, 0, api.ErrNone, api.OK},
		{"no reading, an instant", api.Clock{}, 1, 0, 0, api.ErrNone, api.ErrNone},
		{"no reading, the last instant but one", api.Clock{}, last - 1, 0, 0, api.ErrNone, api.ErrNone},
		{"no reading, the last instant", api.Clock{}, last, last, 0, api.OK, api.ErrNone},
		{"an exact clock", exact(5, 3), 77, 79, 79, api.OK, api.OK},
		{"an exact clock, the first value", exact(5, 9), 4, 0, 0, api.OK, api.OK},
		{"an exact clock, before the first value", exact(5, 9), 3, 0, 0, api.ErrNone, api.OK},
		{"an exact clock, the last value", exact(last-5, 9), 14, last, last, api.OK, api.OK},
		{"an exact clock, after the last value", exact(last-5, 9), 15, last, 0, api.OK, api.ErrNone},
		{"an exact clock, the last instant but one", exact(5, 9), last - 1, last - 5, last - 5, api.OK, api.OK},
		{"an exact clock, the last instant", exact(5, 9), last, last, last - 4, api.OK, api.OK},
		{"an exact clock, the first instant", exact(9, 5), 0, 4, 0, api.OK, api.OK},
		{"an exact clock, the second instant", exact(9, 5), 1, 5, 5, api.OK, api.OK},
		{"readings that contradict each other", torn, 100, 97, 0, api.OK, api.OK},
		{"a negative instant", example(), -1, 0, 0, api.ErrRange, api.ErrRange},
		{"the least number", example(), math.MinInt, 0, 0, api.ErrRange, api.ErrRange},
		{"an instant after the last one", example(), last + 1, 0, 0, api.ErrRange, api.ErrRange},
		{"the greatest number", example(), math.MaxInt, 0, 0, api.ErrRange, api.ErrRange},
		{"a negative instant, without a reading", api.Clock{}, -1, 0, 0, api.ErrRange, api.ErrRange},
		{"an instant after the last one, without a reading", api.Clock{}, last + 1, 0, 0, api.ErrRange, api.ErrRange},
	} {
		if n, e := clock.Latest(x.c, x.due); n != x.latest || e != x.e {
			t.Error("P14.7: Latest of", x.name, n, e, "and not", x.latest, x.e)
		}
		if n, e := clock.Earliest(x.c, x.due); n != x.earliest || e != x.f {
			t.Error("P14.7: Earliest of", x.name, n, e, "and not", x.earliest, x.f)
		}
	}
}

// TestAnyNumbers calls all functions with any numbers in all places.
func TestAnyNumbers(t *testing.T) {
	r := rand.New(rand.NewSource(11))
	number := func() int { return someNumbers[r.Intn(len(someNumbers))] }
	for range 100000 {
		c := api.Clock{Rate: number(), Reads: make([]api.Reading, r.Intn(3)*r.Intn(10))}
		if r.Intn(2) == 0 {
			c = great(r)
		}
		for k := range c.Reads {
			if c.Reads[k].Local > 0 && r.Intn(40) > 0 {
				continue
			}
			c.Reads[k] = api.Reading{Local: number(), When: api.When{Lo: number(), Hi: number()}}
		}
		a, b, v, w := number(), number(), api.When{Lo: number(), Hi: number()}, api.When{Lo: number(), Hi: number()}
		if e, want := clock.Check(c), wantCheck(c); e != want {
			t.Fatal("P14.1: Check of", c, e, "and not", want)
		}
		now, e := clock.Now(c, a)
		if want, wantE := wantNow(c, a); now != want || e != wantE {
			t.Fatal("P14.3: Now of", c, a, now, e, "and not", want, wantE)
		}
		d, e := clock.Sync(c, api.Reading{Local: a, When: v})
		if want, wantE := wantSync(c, api.Reading{Local: a, When: v}); !equal(d, want) || e != wantE {
			t.Fatal("P14.4: Sync of", c, a, v, d, e, "and not", want, wantE)
		}
		read, e := clock.Answer(c, a, b, v)
		if want, wantE := wantAnswer(c, a, b, v); read != want || e != wantE {
			t.Fatal("P14.5: Answer of", c, a, b, v, read, e, "and not", want, wantE)
		}
		clock.Order(v, w) // P1: it does not panic
		latest, e := clock.Latest(c, a)
		earliest, f := clock.Earliest(c, a)
		want := wantCheck(c)
		if want == api.OK && !isIn(a, 0, last) {
			want = api.ErrRange
		}
		if want != api.OK && (latest != 0 || earliest != 0 || e != want || f != want) {
			t.Fatal("P14.7: Latest and Earliest of", c, a, latest, earliest, e, f, "and not", want)
		}
	}
}

// TestMemory checks that a clock and the one that Sync returns share no memory.
func TestMemory(t *testing.T) {
	for _, many := range []int{0, 1, 2, 15, 16} {
		spare := api.Reading{Local: 77, When: api.When{Lo: 7, Hi: 77}}
		l := append(reads(many), spare, spare)
		c := api.Clock{Rate: 9, Reads: l[:many]}
		before := slices.Clone(l)
		d, e := clock.Sync(c, api.Reading{Local: 500, When: api.When{Lo: 0, Hi: last}})
		f, g := clock.Sync(c, api.Reading{Local: 500, When: api.When{Lo: 500, Hi: 500}})
		if e != api.OK || g != api.OK || !slices.Equal(l, before) {
			t.Fatal("P14.4: Sync of", many, "readings changed its argument", l, e, g)
		}
		again := copied(d)
		for k := range f.Reads {
			f.Reads[k] = spare
		}
		for k := range l {
			l[k] = spare
		}
		if !equal(d, again) {
			t.Error("chapter 14: the clock that Sync returns, of", many, "readings, shares memory", d)
		}
	}
}
