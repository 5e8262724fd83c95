package locate

import (
	"iter"
	"math/bits"
)

// remainders yields all that can be left of a set of pieces when at most so many of them are taken away: none first, then one, and so on.
func remainders(mask, most int) iter.Seq[int] {
	return func(yield func(int) bool) {
		for many := range most + 1 {
			for taken := range parts(mask, many) {
				if !yield(mask &^ taken) {
					return
				}
			}
		}
	}
}

// parts yields all parts of a set that have so many pieces; of two of them, the one that has the least piece in which they differ comes first.
func parts(mask, many int) iter.Seq[int] {
	return func(yield func(int) bool) {
		var extend func(part, rest, missing int) bool
		extend = func(part, rest, missing int) bool {
			if missing == 0 {
				return yield(part)
			}
			for bits.OnesCount(uint(rest)) >= missing {
				least := rest & -rest
				rest &^= least
				if !extend(part|least, rest, missing-1) {
					return false
				}
			}
			return true
		}
		extend(0, mask, many)
	}
}

// members yields the pieces of a set, in ascending order.
func members(set int) iter.Seq[int] {
	return func(yield func(int) bool) {
		for ; set != 0; set &= set - 1 {
			if !yield(bits.TrailingZeros(uint(set))) {
				return
			}
		}
	}
}
