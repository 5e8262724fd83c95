package clock

import (
	"iter"
	"sort"

	"quietus/api"
)

// The functions of this file are given clocks without errors, and values that they can show.

// passed returns the least and the greatest number of instants of Passed.
func passed(rate, shown int) (lo, hi int) {
	if shown > 0 {
		lo = 1 + (shown-1)*api.Million/(api.Million+rate)
	}
	// 1 less than a quotient that is rounded up.
	hi = ((shown+1)*api.Million - 1) / (api.Million - rate)
	return lo, hi
}

// bounds returns the lower and the upper bound for a value. If the readings contradict each other, Lo is greater than Hi.
func bounds(c api.Clock, local int) api.When {
	w := common()
	for allowed := range readings(c, local) {
		w = common(w, allowed)
	}
	return w
}

// common returns the range from the greatest number with which one of some ranges begins to the least one with which one ends; both are no further than the first and the last instant.
func common(ranges ...api.When) api.When {
	all := api.When{Lo: 0, Hi: api.MaxInstant}
	for _, w := range ranges {
		all.Lo, all.Hi = max(all.Lo, w.Lo), min(all.Hi, w.Hi)
	}
	return all
}

// readings yields for each reading the range in which it allows a clock to show a value; not all of it need be instants.
func readings(c api.Clock, local int) iter.Seq[api.When] {
	return func(yield func(api.When) bool) {
		for _, r := range c.Reads {
			if !yield(allowed(c.Rate, r, local)) {
				return
			}
		}
	}
}

// allowed returns the range in which one reading allows a clock to show a value.
func allowed(rate int, r api.Reading, local int) api.When {
	w := r.When
	switch {
	case r.Local < local:
		lo, hi := passed(rate, local-r.Local)
		return api.When{Lo: w.Lo + lo, Hi: w.Hi + hi}
	case r.Local > local:
		lo, hi := passed(rate, r.Local-local)
		return api.When{Lo: w.Lo - hi, Hi: w.Hi - lo}
	}
	// A clock shows the same value for some time, before the reading and after it.
	_, hi := passed(rate, 0)
	return api.When{Lo: w.Lo - hi, Hi: w.Hi + hi}
}

// first returns the least value for whose bounds something holds, or a value that no clock can show if there is none. What holds for some bounds has to hold for later ones, too: bounds never decrease.
func first(c api.Clock, holds func(w api.When) bool) int {
	return sort.Search(api.MaxInstant+1, func(local int) bool { return holds(bounds(c, local)) })
}
