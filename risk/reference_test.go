package risk_test

import (
	"math"
	"math/big"
	"math/rand"
	"slices"
	"testing"

	"quietus/api"
	"quietus/code"
)

// someNumbers are numbers of which many are no domain, no chance and no set.
var someNumbers = []int{math.MinInt, math.MinInt + 1, -1 << 32, -4096, -16, -2, -1, 0, 1, 2, 3, 4, 7, 8, 11, 12, 15, 16, 17, 63, 64, 4095, 4096, 1 << 32, math.MaxInt - 1, math.MaxInt}

// example is the peril of the chapter.
func example() api.Peril {
	return api.Peril{Code: api.Code{Data: 2, Globals: 1}, At: []int{0, 1, 2}, Chance: []int{1, 2, 4}}
}

// anyCode is a code without errors, with at most so many pieces.
func anyCode(r *rand.Rand, most int) api.Code {
	c := api.Code{Data: 1 + r.Intn(min(most, api.MaxData))}
	c.Globals = r.Intn(min(most-c.Data, api.MaxGlobals) + 1)
	for _, i := range r.Perm(c.Data) {
		switch k := len(c.Groups); {
		case k > 0 && r.Intn(3) > 0:
			c.Groups[k-1] = append(c.Groups[k-1], i)
			slices.Sort(c.Groups[k-1])
		case c.Data+c.Globals+k < most && r.Intn(3) > 0:
			c.Groups = append(c.Groups, []int{i})
		}
	}
	return c
}

// anyPeril is a peril without errors, with so many domains.
func anyPeril(r *rand.Rand, c api.Code, domains int) api.Peril {
	p := api.Peril{Code: c}
	next, gone := r.Intn(domains+1), r.Intn(3)
	for range code.Pieces(c) {
		switch {
		case domains == 0 || gone == 0 && r.Intn(6) == 0:
			p.At = append(p.At, -1)
		case r.Intn(4) == 0:
			p.At = append(p.At, r.Intn(domains))
		default: // as even as it can be
			next++
			p.At = append(p.At, next%domains)
		}
	}
	sure := r.Intn(3)
	for range domains {
		p.Chance = append(p.Chance, r.Intn(17))
		if sure == 0 && r.Intn(3) == 0 {
			p.Chance[len(p.Chance)-1] = 16 * r.Intn(2)
		}
	}
	return p
}

// small is a peril with few domains and pieces.
func small(r *rand.Rand) api.Peril { return anyPeril(r, anyCode(r, 1+r.Intn(9)), r.Intn(7)) }

// great is a peril with many domains and pieces, or with as many as there may be.
func great(r *rand.Rand) api.Peril {
	if r.Intn(3) > 0 {
		return anyPeril(r, anyCode(r, api.MaxPieces), 7+r.Intn(6))
	}
	c := api.Code{Data: 16, Groups: make([][]int, 4), Globals: 4}
	for i := range c.Data {
		c.Groups[i%4] = append(c.Groups[i%4], i)
	}
	return anyPeril(r, c, 12)
}

// copies is a peril with one data piece, no groups, and copies of it in some domains; some domains may have several ones.
func copies(r *rand.Rand) api.Peril {
	return anyPeril(r, api.Code{Data: 1, Globals: r.Intn(api.MaxGlobals + 1)}, 1+r.Intn(9))
}

// wantCheck is the first error of a peril.
func wantCheck(p api.Peril) api.Errno {
	if e := code.Check(p.Code); e != api.OK {
		return e
	}
	if len(p.Chance) > 12 {
		return api.ErrLimit
	}
	if len(p.At) != p.Code.Data+len(p.Code.Groups)+p.Code.Globals {
		return api.ErrArg
	}
	for _, d := range p.At {
		if d < -1 || d > len(p.Chance)-1 {
			return api.ErrArg
		}
	}
	for _, c := range p.Chance {
		if c < 0 || c > 16 {
			return api.ErrRange
		}
	}
	return api.OK
}

// wantLost says whether a list of domains loses the chunk of a peril without errors.
func wantLost(p api.Peril, failed []int) bool {
	pieces := 0
	for k, d := range p.At {
		if d >= 0 && !slices.Contains(failed, d) {
			pieces += 1 << k
		}
	}
	return !code.Recoverable(p.Code, pieces)
}

// wantLoss is the chance of a loss, times 16 for each domain that is not decided yet: domain by domain, it fails or it does not.
func wantLoss(p api.Peril, decided int, failed []int) *big.Int {
	if decided == len(p.Chance) {
		if wantLost(p, failed) {
			return big.NewInt(1)
		}
		return big.NewInt(0)
	}
	sum := new(big.Int)
	if c := p.Chance[decided]; c > 0 {
		sum.Mul(big.NewInt(int64(c)), wantLoss(p, decided+1, append(slices.Clone(failed), decided)))
	}
	if c := 16 - p.Chance[decided]; c > 0 {
		sum.Add(sum, new(big.Int).Mul(big.NewInt(int64(c)), wantLoss(p, decided+1, failed)))
	}
	return sum
}

// wantTotal is a power of 16.
func wantTotal(p api.Peril) *big.Int {
	return new(big.Int).Exp(big.NewInt(16), big.NewInt(int64(len(p.Chance))), nil)
}

// wantChance is the chance of a loss.
func wantChance(p api.Peril) *big.Rat { return new(big.Rat).SetFrac(wantLoss(p, 0, nil), wantTotal(p)) }

// wantMillionths is the least number of millionths that a chance is not above.
func wantMillionths(chance *big.Rat) int {
	above := func(m int64) bool { return chance.Cmp(big.NewRat(m, 1000000)) > 0 }
	lo, hi := int64(0), int64(1000000)
	for lo < hi {
		if m := (lo + hi) / 2; above(m) {
			lo = m + 1
		} else {
			hi = m
		}
	}
	return int(lo)
}

// wantLeast is the first list of domains that loses the chunk: shorter lists come first, and lists of one length in the order of their elements.
func wantLeast(p api.Peril) int {
	var find func(list []int, more int) int
	find = func(list []int, more int) int {
		if more == 0 {
			if wantLost(p, list) {
				return setOf(list)
			}
			return -1
		}
		from := 0
		if len(list) > 0 {
			from = list[len(list)-1] + 1
		}
		for d := from; d < len(p.Chance); d++ {
			if set := find(append(slices.Clone(list), d), more-1); set >= 0 {
				return set
			}
		}
		return -1
	}
	for many := 0; ; many++ {
		if set := find(nil, many); set >= 0 {
			return set
		}
	}
}

// setOf is the set of the domains of a list.
func setOf(list []int) int {
	set := 0
	for _, d := range list {
		set += 1 << d
	}
	return set
}

// listOf is the list of the domains of a set.
func listOf(set int) []int {
	var list []int
	for d := range 12 {
		if set&(1<<d) != 0 {
			list = append(list, d)
		}
	}
	return list
}

// copied is a peril in memory of its own.
func copied(p api.Peril) api.Peril {
	p.At, p.Chance = append([]int{}, p.At...), append([]int{}, p.Chance...)
	groups := p.Code.Groups
	p.Code.Groups = nil
	for _, group := range groups {
		p.Code.Groups = append(p.Code.Groups, append([]int{}, group...))
	}
	return p
}

// equal says whether two perils are the same.
func equal(a, b api.Peril) bool {
	same := slices.Equal[[]int]
	return same(a.At, b.At) && same(a.Chance, b.Chance) && a.Code.Data == b.Code.Data && a.Code.Globals == b.Code.Globals && slices.EqualFunc(a.Code.Groups, b.Code.Groups, same)
}

// each calls a function with many perils, and checks that it does not change them.
func each(t *testing.T, seed int64, many int, made func(r *rand.Rand) api.Peril, f func(r *rand.Rand, p api.Peril)) {
	t.Helper()
	r := rand.New(rand.NewSource(seed))
	f(r, example())
	for range many {
		p := made(r)
		before := copied(p)
		f(r, p)
		if !equal(p, before) || t.Failed() {
			t.Fatal("chapter 12: with", before, "the argument is", p)
		}
	}
}

// enough checks that each of some kinds of cases was met often enough.
func enough[K comparable](t *testing.T, seen map[K]int, many int, kinds ...K) {
	t.Helper()
	for _, k := range kinds {
		if seen[k] < many {
			t.Error("too few cases of", k, seen)
		}
	}
}
