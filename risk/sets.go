package risk

import (
	"cmp"
	"math/bits"
	"slices"

	"quietus/api"
	"quietus/code"
)

// The functions of this file are given perils without errors.

// total returns the denominator of chances.
func total(p api.Peril) int { return 1 << (chanceBits * len(p.Chance)) }

// loss returns the sum of the chances, out of total, of all sets of domains that lose the chunk.
func loss(p api.Peril) int {
	sum, weigh, loses := 0, weights(p), losers(p)
	for failed := range 1 << len(p.Chance) {
		// Whether a set that never fails loses the chunk does not matter.
		if weight := weigh(failed); weight > 0 && loses(failed) {
			sum += weight
		}
	}
	return sum
}

// scaled returns the chance of a loss out of the greatest total: perils with different numbers of domains can be compared by it, without products that are too great.
func scaled(p api.Peril) int {
	return loss(p) << (chanceBits * (api.MaxPeril - len(p.Chance)))
}

// weights returns a function that says how likely it is, out of total, that exactly a set of domains fails.
func weights(p api.Peril) func(failed int) int {
	return func(failed int) int {
		product := 1
		for domain, chance := range p.Chance {
			if !has(failed, domain) {
				chance = certain - chance
			}
			product *= chance
		}
		return product
	}
}

// losers returns a function that says whether the chunk is lost if exactly a set of domains fails. Many sets of domains leave the same pieces.
func losers(p api.Peril) func(failed int) bool {
	known := map[int]bool{} // whether the chunk is lost with these pieces alone
	return func(failed int) bool {
		pieces := left(p, failed)
		lost, looked := known[pieces]
		if !looked {
			lost = !code.Recoverable(p.Code, pieces)
			known[pieces] = lost
		}
		return lost
	}
}

// left returns the set of the pieces that are in other domains than those that fail.
func left(p api.Peril, failed int) int {
	pieces := 0
	for piece, domain := range p.At {
		if domain != nowhere && !has(failed, domain) {
			pieces |= 1 << piece
		}
	}
	return pieces
}

// before says whether a set has fewer domains than another one, or as many, and the least of those in which they differ.
func before(a, b int) bool {
	if by := cmp.Compare(bits.OnesCount(uint(a)), bits.OnesCount(uint(b))); by != 0 {
		return by < 0
	}
	differ := a ^ b
	return a&differ&-differ != 0
}

// has says whether a domain is in a set.
func has(set, domain int) bool { return set>>domain&1 == 1 }

// clone returns a peril in memory of its own.
func clone(p api.Peril) api.Peril {
	p.At, p.Chance, p.Code.Groups = slices.Clone(p.At), slices.Clone(p.Chance), slices.Clone(p.Code.Groups)
	for g, group := range p.Code.Groups {
		p.Code.Groups[g] = slices.Clone(group)
	}
	return p
}
