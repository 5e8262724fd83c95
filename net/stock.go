package net

import (
	"cmp"
	"iter"
	"slices"
	"sort"

	"quietus/api"
)

// The functions of this file are given nets, schedules and demands without errors.

// hour returns the hour of a tick.
func hour(tick int) int { return tick % api.DayTicks }

// capacity returns how many bytes a link carries in a tick.
func capacity(n api.Net, link, tick int) int { return n.Links[link].Cap[hour(tick)] }

// order compares two sends by tick, then by link.
func order(a, b api.Send) int {
	return cmp.Or(cmp.Compare(a.Tick, b.Tick), cmp.Compare(a.Link, b.Link))
}

// total returns the bytes of those sends that count.
func total(l []api.Send, counts func(s api.Send) bool) int {
	bytes := 0
	for _, s := range l {
		if counts(s) {
			bytes += s.Bytes
		}
	}
	return bytes
}

// together returns the sends of all schedules, in order, and in one what they send over a link in a tick; no limit is looked at.
func together(ls [][]api.Send) []api.Send {
	type place struct{ link, tick int }
	bytes := map[place]int{}
	for _, l := range ls {
		for _, s := range l {
			bytes[place{s.Link, s.Tick}] += s.Bytes
		}
	}
	all := make([]api.Send, 0, len(bytes))
	for at, sum := range bytes {
		all = append(all, api.Send{Link: at.link, Tick: at.tick, Bytes: sum})
	}
	slices.SortFunc(all, order)
	return all
}

// turn is what a house sends in a tick, and what is sent to it.
type turn struct{ tick, out, in int }

// turns yields what a house sends and gets in each tick in which a schedule sends bytes, in order.
func turns(n api.Net, l []api.Send, house int) iter.Seq[turn] {
	from := func(s api.Send) bool { return n.Links[s.Link].From == house }
	to := func(s api.Send) bool { return n.Links[s.Link].To == house }
	return func(yield func(turn) bool) {
		for rest := l; len(rest) > 0; {
			tick := rest[0].Tick
			now := rest[:firstAfter(rest, tick)]
			if !yield(turn{tick, total(now, from), total(now, to)}) {
				return
			}
			rest = rest[len(now):]
		}
	}
}

// firstAfter returns the index of the first send of a later tick, or the number of sends if there is none.
func firstAfter(l []api.Send, tick int) int {
	return sort.Search(len(l), func(k int) bool { return l[k].Tick > tick })
}

// given returns the bytes of a demand that a house has at a tick although nobody has sent them to it.
func given(d api.Demand, house, tick int) int {
	if house == d.From && tick >= d.Ready {
		return d.Bytes
	}
	return 0
}

// stock returns the bytes of a demand that are in a house at the beginning of a tick.
func stock(n api.Net, l []api.Send, d api.Demand, house, tick int) int {
	bytes := given(d, house, tick)
	for t := range turns(n, l, house) {
		if t.tick >= tick {
			break
		}
		bytes += t.in - t.out
	}
	return bytes
}

// overdraws says whether a house sends more bytes in some tick than it has at its beginning.
func overdraws(n api.Net, l []api.Send, d api.Demand, house int) bool {
	moved := 0
	for t := range turns(n, l, house) {
		if t.out > moved+given(d, house, t.tick) {
			return true
		}
		moved += t.in - t.out
	}
	return false
}

// arrival returns the first tick at which all bytes of a demand are where they have to be, if a schedule serves it.
func arrival(n api.Net, l []api.Send, d api.Demand) int {
	// Nothing is sent before Ready.
	tick, bytes := d.Ready, given(d, d.To, d.Ready)
	for t := range turns(n, l, d.To) {
		if bytes >= d.Bytes {
			break
		}
		tick, bytes = t.tick+1, bytes+t.in-t.out
	}
	return tick
}
