package risk_test

import (
	"math/rand"
	"slices"
	"testing"

	"quietus/api"
	"quietus/code"
	"quietus/risk"
)

// lossOf is the chance of a loss of a peril without errors.
func lossOf(t *testing.T, p api.Peril) int {
	t.Helper()
	loss, e := risk.Loss(p)
	if e != api.OK {
		t.Fatal("P12.3: Loss of", p, e)
	}
	return loss
}

// loses says whether a set of domains loses the chunk of a peril without errors.
func loses(t *testing.T, p api.Peril, failed int) bool {
	t.Helper()
	lost, e := risk.Lost(p, failed)
	if e != api.OK {
		t.Fatal("P12.2: Lost of", p, failed, e)
	}
	return lost
}

// power is 16 to the power of k.
func power(k int) int { return 1 << (4 * k) }

// TestExact decides about each domain: it fails, or it does not.
func TestExact(t *testing.T) {
	try := func(_ *rand.Rand, p api.Peril) {
		loss := lossOf(t, p)
		for d, chance := range p.Chance {
			fails, e := risk.Given(p, d, true)
			stays, f := risk.Given(p, d, false)
			if sum := chance*lossOf(t, fails) + (16-chance)*lossOf(t, stays); 16*loss != sum || e != api.OK || f != api.OK {
				t.Fatal("P12.8: of", p, "domain", d, loss, sum, e, f)
			}
		}
	}
	each(t, 21, 1500, small, try)
	each(t, 22, 20, great, try)
}

// TestMonotone gives domains greater chances, takes pieces away, and lets more domains fail.
func TestMonotone(t *testing.T) {
	greater, lost := map[bool]int{}, 0
	try := func(r *rand.Rand, p api.Peril) {
		loss := lossOf(t, p)
		m, _ := risk.Millionths(p)
		for range 5 {
			q := copied(p)
			if d := r.Intn(len(p.Chance) + 1); d < len(p.Chance) {
				q.Chance[d] += r.Intn(17 - q.Chance[d])
			} else {
				q.At[r.Intn(len(q.At))] = -1
			}
			by, e := risk.Compare(p, q)
			more, f := risk.Millionths(q)
			if lossOf(t, q) < loss || by > 0 || more < m || e != api.OK || f != api.OK {
				t.Fatal("P12.9: of", p, loss, m, "and", q, lossOf(t, q), more, by, e, f)
			}
			greater[lossOf(t, q) > loss]++
			set := r.Intn(1 << len(p.Chance))
			if loses(t, p, set) {
				lost++
				if great := set | r.Intn(1<<len(p.Chance)); !loses(t, p, great) || !loses(t, q, set) {
					t.Fatal("P12.9: of", p, set, great, "and of", q, set)
				}
			}
		}
	}
	each(t, 23, 1500, small, try)
	each(t, 24, 20, great, try)
	enough(t, greater, 1000, true, false)
	if lost < 1000 {
		t.Error("too few sets that lose the chunk:", lost)
	}
}

// TestNothingLess looks for sets that are less than the least one.
func TestNothingLess(t *testing.T) {
	try := func(_ *rand.Rand, p api.Peril) {
		least, e := risk.Least(p)
		if e != api.OK || !loses(t, p, least) || !loses(t, p, 1<<len(p.Chance)-1) {
			t.Fatal("P12.10: Least of", p, least, e)
		}
		many := len(listOf(least))
		for set := range 1 << len(p.Chance) {
			if len(listOf(set)) < many && loses(t, p, set) {
				t.Fatal("P12.10: Least of", p, least, "and not", set)
			}
		}
		for _, d := range listOf(least) {
			if loses(t, p, least-1<<d) {
				t.Fatal("P12.10: Least of", p, least, "also without", d)
			}
		}
	}
	each(t, 25, 1000, small, try)
	each(t, 26, 10, great, try)
}

// TestCopies checks chances that are products: of copies, and of chunks in one domain.
func TestCopies(t *testing.T) {
	each(t, 27, 1000, copies, func(_ *rand.Rand, p api.Peril) {
		if p.Code.Data > 1 { // the example
			return
		}
		want := 1
		for d, chance := range p.Chance {
			if slices.Contains(p.At, d) {
				want *= chance
			} else {
				want *= 16
			}
		}
		if loss := lossOf(t, p); loss != want {
			t.Fatal("P12.11: Loss of copies", p, loss, want)
		}
	})
	each(t, 28, 1000, small, func(r *rand.Rand, p api.Peril) {
		if len(p.Chance) == 0 {
			return
		}
		q, d := copied(p), r.Intn(len(p.Chance))
		for k := range q.At {
			q.At[k] = d
		}
		if loss := lossOf(t, q); loss != p.Chance[d]*power(len(p.Chance)-1) {
			t.Fatal("P12.11: Loss of all pieces in one domain", q, loss)
		}
		if least, e := risk.Least(q); least != 1<<d || e != api.OK {
			t.Fatal("P12.10: Least of all pieces in one domain", q, least, e)
		}
	})
}

// TestNames gives the domains other numbers.
func TestNames(t *testing.T) {
	try := func(r *rand.Rand, p api.Peril) {
		q, to := copied(p), r.Perm(len(p.Chance))
		for d, chance := range p.Chance {
			q.Chance[to[d]] = chance
		}
		for k, d := range p.At {
			if d >= 0 {
				q.At[k] = to[d]
			}
		}
		a, _ := risk.Least(p)
		b, _ := risk.Least(q)
		by, e := risk.Compare(p, q)
		if lossOf(t, p) != lossOf(t, q) || len(listOf(a)) != len(listOf(b)) || by != 0 || e != api.OK {
			t.Fatal("P12.12: of", p, lossOf(t, p), a, "and", q, lossOf(t, q), b, by, e)
		}
		set := r.Intn(1 << len(p.Chance))
		other := 0
		for _, d := range listOf(set) {
			other += 1 << to[d]
		}
		if loses(t, p, set) != loses(t, q, other) {
			t.Fatal("P12.12: of", p, set, "and", q, other)
		}
	}
	each(t, 29, 1500, small, try)
	each(t, 30, 40, great, try)
}

// TestDecoded lets domains fail, and decodes the chunk from what is left if it is not lost.
func TestDecoded(t *testing.T) {
	seen := map[api.Errno]int{}
	try := func(r *rand.Rand, p api.Peril) {
		data := make([]byte, r.Intn(40))
		r.Read(data)
		pieces, e := code.Encode(p.Code, string(data))
		if e != api.OK {
			t.Fatal("P7.3: Encode with", p.Code, e)
		}
		for range 8 {
			failed := r.Intn(1<<len(p.Chance)) & r.Intn(1<<len(p.Chance))
			mask := 0
			for k, d := range p.At {
				if d >= 0 && !slices.Contains(listOf(failed), d) {
					mask |= 1 << k
				}
			}
			got, e := code.Decode(p.Code, len(data), mask, pieces)
			if lost := loses(t, p, failed); lost != (e == api.ErrLost) || !lost && got != string(data) {
				t.Fatal("P12.2: Decode with", p, "after the failure of", failed, e, lost)
			}
			seen[e]++
		}
	}
	each(t, 31, 1000, small, try)
	each(t, 32, 100, great, try)
	enough(t, seen, 1000, api.OK, api.ErrLost)
}

// spare is a peril whose lists, one behind the other in the same memory, have room for more.
func spare(p api.Peril) (api.Peril, []int) {
	all := make([]int, 0, 200)
	put := func(list []int) []int {
		from := len(all)
		all = append(all, list...)
		return all[from:]
	}
	q := copied(p)
	q.At, q.Chance = put(p.At), put(p.Chance)
	for g, group := range p.Code.Groups {
		q.Code.Groups[g] = put(group)
	}
	q.Code.Groups = slices.Grow(q.Code.Groups, 3)
	return q, all
}

// TestNewMemory writes to results: neither the arguments nor other parts of the result, nor later results change.
func TestNewMemory(t *testing.T) {
	each(t, 33, 500, small, func(r *rand.Rand, p api.Peril) {
		if len(p.Chance) == 0 {
			return
		}
		q, all := spare(p)
		before, d, fails := slices.Clone(all), r.Intn(len(p.Chance)), r.Intn(2) == 0
		want, _ := risk.Given(p, d, fails)
		got, e := risk.Given(q, d, fails)
		if !equal(got, want) || e != api.OK {
			t.Fatal("P12.5: Given of", p, d, fails, got, e)
		}
		// What is appended to a part must not get into another one.
		_, _ = append(got.At, -5), append(got.Chance, -5)
		for _, group := range got.Code.Groups {
			_ = append(group, -5)
		}
		if !equal(got, want) || !slices.Equal(all, before) {
			t.Fatal("chapter 12: parts in shared memory:", got, want)
		}
		for _, list := range append([][]int{got.At, got.Chance}, got.Code.Groups...) {
			for k := range list {
				list[k] = -5
			}
		}
		for g := range got.Code.Groups {
			got.Code.Groups[g] = []int{-6}
		}
		_ = append(got.Code.Groups, []int{-7})
		if again, _ := risk.Given(q, d, fails); !slices.Equal(all, before) || !equal(again, want) || !equal(q, p) {
			t.Fatal("chapter 12: results in shared memory:", p, again, want)
		}
	})
}

// TestPure calls all functions, does other things, and calls them again.
func TestPure(t *testing.T) {
	each(t, 34, 300, small, func(r *rand.Rand, p api.Peril) {
		all := func() [6]int {
			total, _ := risk.Total(p)
			least, _ := risk.Least(p)
			m, _ := risk.Millionths(p)
			by, _ := risk.Compare(p, example())
			lost := 0
			for set := range 1 << len(p.Chance) {
				if loses(t, p, set) {
					lost++
				}
			}
			return [6]int{total, lossOf(t, p), least, m, by, lost}
		}
		first := all()
		lossOf(t, great(r))
		if again := all(); again != first {
			t.Fatal("chapter 12: other results of", p, first, again)
		}
	})
}

// TestAnyArguments calls all functions with any numbers: none of them panics, and the errors are those of the references.
func TestAnyArguments(t *testing.T) {
	r := rand.New(rand.NewSource(35))
	any := func() int { return someNumbers[r.Intn(len(someNumbers))] }
	seen := map[api.Errno]int{}
	for range 30000 {
		p := copied(small(r))
		for range r.Intn(3) {
			switch k := r.Intn(8); {
			case k == 0: // there is always a place
				p.At[r.Intn(len(p.At))] = any()
			case k == 1 && len(p.Chance) > 0:
				p.Chance[r.Intn(len(p.Chance))] = any()
			case k == 2:
				p.At = slices.Concat(p.At, []int{any()})
			case k == 3 && len(p.At) > 1:
				p.At = slices.Clone(p.At[1:])
			case k == 4:
				p.Chance = append(p.Chance, make([]int, r.Intn(16))...)
			case k == 5:
				p.Code.Groups = append(p.Code.Groups, []int{any()})
			case k == 6:
				p.Code.Data = any()
			case k == 7:
				p.Code = api.Code{Data: 1 + r.Intn(17), Groups: make([][]int, r.Intn(12)), Globals: r.Intn(6)}
			}
		}
		before := copied(p)
		want := wantCheck(p)
		seen[want]++
		checkError(t, "any arguments", p, want)
		set := any()
		lost, e := risk.Lost(p, set)
		d := any()
		given, f := risk.Given(p, d, r.Intn(2) == 0)
		if want == api.OK && (set < 0 || set >= 1<<len(p.Chance)) != (e == api.ErrArg) || want == api.OK && (d < 0 || d >= len(p.Chance)) != (f == api.ErrArg) || e != api.OK && lost || f != api.OK && !equal(given, api.Peril{}) || want != api.OK && (e != want || f != want) {
			t.Error("P12.2, P12.5: with", p, set, d, lost, e, given, f)
		}
		if !equal(p, before) || t.Failed() {
			t.Fatal("P1: with", before, "the argument is", p)
		}
	}
	enough(t, seen, 500, api.OK, api.ErrArg, api.ErrRange, api.ErrLimit, api.ErrNone)
}
