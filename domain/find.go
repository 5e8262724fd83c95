package domain

import (
	"iter"

	"quietus/api"
)

// finder returns the function that says in which domain of a level a disk is, and -1 for what is not a disk. If there is no such level, or the domains have an error, this is so for all numbers.
func finder(d api.Domains, level int) func(disk int) int {
	if Size(d, level) == 0 {
		return func(int) int { return -1 }
	}
	// The ways from the disk upwards begin with the same steps: each case puts one before those of the case above, and falls through to the step before it.
	find := func(n int) int { return n }
	switch level {
	case api.LvOwner:
		find = func(house int) int { return d.Houses[house] }
		fallthrough
	case api.LvHouse:
		above := find
		find = func(rack int) int { return above(d.Racks[rack].House) }
		fallthrough
	case api.LvRack:
		above := find
		find = func(disk int) int { return above(d.Disks[disk]) }
	}
	return func(disk int) int {
		if !isIndex(disk, len(d.Disks)) {
			return -1
		}
		return find(disk)
	}
}

// members yields the disks in a domain of a level, in ascending order.
func members(d api.Domains, level, n int) iter.Seq[int] {
	return func(yield func(int) bool) {
		if !isIndex(n, Size(d, level)) {
			return
		}
		find := finder(d, level)
		for disk := range d.Disks {
			if find(disk) == n && !yield(disk) {
				return
			}
		}
	}
}

// pieces yields the pieces of a layout that are on a disk, each with its domain of a level.
func pieces(d api.Domains, level int, layout []int) iter.Seq2[int, int] {
	return func(yield func(int, int) bool) {
		if len(layout) > api.MaxPieces {
			return
		}
		find := finder(d, level)
		for piece, disk := range layout {
			if n := find(disk); n >= 0 && !yield(piece, n) {
				return
			}
		}
	}
}
