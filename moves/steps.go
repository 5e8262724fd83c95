package moves

import (
	"iter"

	"quietus/api"
	"quietus/code"
	"quietus/domain"
)

// The functions of this file are given shifts without errors, and phases that are right for them.

// stand is the phases of the pieces; those of pieces that do not exist are 0.
type stand [api.MaxPieces]uint8

// from returns the set of the pieces that have a phase, or a later one.
func (at stand) from(phase uint8) int {
	set := 0
	for piece, p := range at {
		if p >= phase {
			set |= 1 << piece
		}
	}
	return set
}

// end returns the phases to which a plan leads.
func end(s api.Shift) stand {
	var at stand
	for _, piece := range moving(s) {
		at[piece] = dropped
	}
	return at
}

// fits says whether each disk has room.
func fits(s api.Shift, at stand) bool {
	var more [api.MaxDisks]int // how many more pieces are on each disk than at the beginning
	for _, piece := range moving(s) {
		if at[piece] >= copied {
			more[s.To[piece]]++
		}
		if at[piece] == dropped {
			more[s.From[piece]]--
		}
	}
	for disk, room := range s.Room {
		if more[disk] > room {
			return false
		}
	}
	return true
}

// safety returns a function that says whether a chunk survives the loss of fewer racks than the Floor. Different racks lose the same pieces again and again.
func safety(s api.Shift) func(at stand) bool {
	from, to := onRacks(s, s.From), onRacks(s, s.To)
	all := 1<<len(s.From) - 1
	known := map[int]bool{} // whether the chunk is recoverable from a set of pieces, as far as this was asked
	return func(at stand) bool {
		gone, came := at.from(dropped), at.from(copied)
		for inFrom, inTo := range losses(from, to, s.Floor-1) {
			left := all &^ ((inFrom | gone) & (inTo | all&^came))
			is, asked := known[left]
			if !asked {
				is = code.Recoverable(s.Code, left)
				known[left] = is
			}
			if !is {
				return false
			}
		}
		return true
	}
}

// onRacks returns the set of the pieces that a layout has on each rack.
func onRacks(s api.Shift, layout []int) []int {
	l := make([]int, domain.Size(s.Domains, api.LvRack))
	for piece, disk := range layout {
		l[domain.Of(s.Domains, api.LvRack, disk)] |= 1 << piece
	}
	return l
}

// losses yields, for all racks of which so many may fail together, the sets of the pieces that are on them in either layout. What is lost when fewer fail than may, and others hold pieces, is lost then, too.
func losses(from, to []int, most int) iter.Seq2[int, int] {
	return func(yield func(int, int) bool) {
		var fail func(rack, more, inFrom, inTo int) bool
		fail = func(rack, more, inFrom, inTo int) bool {
			for rack < len(from) && from[rack]|to[rack] == 0 {
				rack++
			}
			if more == 0 || rack == len(from) {
				return yield(inFrom, inTo)
			}
			return fail(rack+1, more-1, inFrom|from[rack], inTo|to[rack]) && fail(rack+1, more, inFrom, inTo)
		}
		fail(0, most, 0, 0)
	}
}

// lead returns the first list of steps that lead from some phases to the end, and whether there is one.
func lead(s api.Shift, at stand, safe func(at stand) bool) ([]int, bool) {
	var steps []int
	target, movers := end(s), moving(s)
	// Many lists of steps lead to the same phases.
	lost := map[stand]bool{}
	var walk func(at stand) bool
	walk = func(at stand) bool {
		if at == target {
			return true
		}
		for _, piece := range movers {
			next := at
			next[piece]++
			if at[piece] == dropped || lost[next] {
				continue
			}
			steps = append(steps, piece)
			if fits(s, next) && safe(next) && walk(next) {
				return true
			}
			steps = steps[:len(steps)-1]
			lost[next] = true
		}
		return false
	}
	found := walk(at)
	return steps, found
}
