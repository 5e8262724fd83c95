package place

import (
	"iter"
	"math/bits"
	"slices"

	"quietus/api"
	"quietus/code"
)

// floor is sets of pieces on racks, some of which may fail.
type floor struct {
	code  api.Code
	all   int               // the set of all pieces
	most  int               // how many racks may fail
	on    [api.MaxRacks]int // the pieces on each rack; those that are on none are never lost
	known map[int]bool      // whether the chunk is recoverable from a set of pieces, as far as this was asked
}

// watch returns the racks of a task with the pieces of a layout that are on a disk.
func watch(s *space, layout []int) *floor {
	f := &floor{code: s.p.Code, all: 1<<len(layout) - 1, most: s.p.Floor - 1, known: map[int]bool{}}
	for piece, disk := range layout {
		if disk != nowhere {
			f.turn(piece, s.at[api.LvRack][disk])
		}
	}
	return f
}

// turn puts a piece on a rack, or takes it away from there.
func (f *floor) turn(piece, rack int) { f.on[rack] ^= 1 << piece }

// stands says whether the chunk is recoverable whichever racks fail, if those of a set are among them.
func (f *floor) stands(set int) bool {
	others := 0
	for rack, pieces := range f.on {
		if pieces != 0 {
			others |= 1 << rack
		}
	}
	for failed := range failures(others&^set, f.most-bits.OnesCount(uint(set))) {
		if !f.recoverable(f.left(failed | set)) {
			return false
		}
	}
	return true
}

// left returns the set of pieces that are left when racks have failed.
func (f *floor) left(failed int) int {
	left := f.all
	for ; failed != 0; failed &= failed - 1 {
		left &^= f.on[bits.TrailingZeros(uint(failed))]
	}
	return left
}

// recoverable says whether the chunk is recoverable from a set of pieces. The search meets the same sets again and again.
func (f *floor) recoverable(set int) bool {
	is, asked := f.known[set]
	if !asked {
		is = code.Recoverable(f.code, set)
		f.known[set] = is
	}
	return is
}

// failures yields all sets of at most so many of some racks; there is none if the number is negative.
func failures(racks, most int) iter.Seq[int] {
	return func(yield func(int) bool) {
		var fail func(failed, rest, more int) bool
		fail = func(failed, rest, more int) bool {
			if more == 0 || rest == 0 {
				return yield(failed)
			}
			rack := rest & -rest
			return fail(failed|rack, rest&^rack, more-1) && fail(failed, rest&^rack, more)
		}
		if most >= 0 {
			fail(0, racks, most)
		}
	}
}

// search returns the least completion of a layout that keeps the contract, and whether there is one. It changes what the space holds.
func search(s *space, layout []int) ([]int, bool) {
	found, f := slices.Clone(layout), watch(s, layout)
	var complete func(piece int) bool
	complete = func(piece int) bool {
		if piece == len(found) {
			return true
		}
		if layout[piece] != nowhere {
			return complete(piece + 1)
		}
		for disk, rack := range s.at[api.LvRack] {
			if !s.takes(disk) {
				continue
			}
			found[piece] = disk
			s.put(disk, 1)
			f.turn(piece, rack)
			// Pieces that are still free count as never lost; where even this does not suffice, no completion does.
			if f.stands(1<<rack) && complete(piece+1) {
				return true
			}
			f.turn(piece, rack)
			s.put(disk, -1)
		}
		return false
	}
	return found, f.stands(0) && complete(0)
}
