package rebuild_test

import (
	"math/bits"
	"math/rand"
	"slices"
	"testing"

	"quietus/api"
	"quietus/code"
	"quietus/gf"
	"quietus/matrix"
)

// example is the code C of chapter 7.
func example() api.Code {
	return api.Code{Data: 4, Groups: [][]int{{0, 1}, {2, 3}}, Globals: 1}
}

// set is the set of some pieces.
func set(list ...int) int {
	s := 0
	for _, k := range list {
		s |= 1 << k
	}
	return s
}

// list are the pieces of a set.
func list(set int) []int {
	var l []int
	for k := range api.MaxPieces {
		if set>>k&1 == 1 {
			l = append(l, k)
		}
	}
	return l
}

// size is the number of pieces of a set.
func size(set int) int { return bits.OnesCount(uint(set)) }

// rowsOf are the rows of a code without errors.
func rowsOf(t testing.TB, c api.Code) [][]uint8 {
	t.Helper()
	rows, e := code.Rows(c)
	if e != api.OK {
		t.Fatal("Rows of", c, e)
	}
	return rows
}

// reference knows the ranks of the rows of all sets of pieces of a code.
type reference struct {
	c     api.Code
	n     int
	rows  [][]uint8
	ranks []int
}

// refer is the reference of a code without errors.
func refer(t testing.TB, c api.Code) reference {
	t.Helper()
	rows := rowsOf(t, c)
	ranks := make([]int, 1<<len(rows))
	for s := range ranks {
		var some [][]uint8
		for _, k := range list(s) {
			some = append(some, rows[k])
		}
		rank, e := matrix.Rank(some)
		if e != api.OK {
			t.Fatal("Rank of", some, e)
		}
		ranks[s] = rank
	}
	return reference{c, len(rows), rows, ranks}
}

// makes says whether some pieces can be made from others: whether they do not increase the rank.
func (r reference) makes(from, wanted int) bool { return r.ranks[from|wanted] == r.ranks[from] }

// least are all lists of as few pieces as possible that make some others, where some are gone, found by a look at all sets.
func (r reference) least(gone, wanted int) [][]int {
	var sets []int
	for s := range r.ranks {
		if s&gone != 0 || !r.makes(s, wanted) {
			continue
		}
		if len(sets) > 0 && size(s) < size(sets[0]) {
			sets = nil
		}
		if len(sets) == 0 || size(s) == size(sets[0]) {
			sets = append(sets, s)
		}
	}
	var lists [][]int
	for _, s := range sets {
		lists = append(lists, list(s))
	}
	slices.SortFunc(lists, slices.Compare[[]int])
	return lists
}

// isRecipe says whether a recipe makes its piece, as the chapter says it, has its pieces in order, and no coefficient 0.
func (r reference) isRecipe(x api.Recipe) bool {
	if len(x.From) == 0 || len(x.Coef) != len(x.From) || slices.Contains(x.Coef, 0) || !slices.Equal(x.From, list(set(x.From...))) {
		return false
	}
	for i, want := range r.rows[x.Piece] {
		sum := uint8(0)
		for k, piece := range x.From {
			sum ^= gf.Mul(x.Coef[k], r.rows[piece][i])
		}
		if sum != want {
			return false
		}
	}
	return true
}

// sameRecipe says whether two recipes are the same.
func sameRecipe(a, b api.Recipe) bool {
	return a.Piece == b.Piece && slices.Equal(a.From, b.From) && slices.Equal(a.Coef, b.Coef)
}

// sameRecipes says whether two lists of recipes are the same.
func sameRecipes(a, b []api.Recipe) bool { return slices.EqualFunc(a, b, sameRecipe) }

// isNone says whether a recipe is the zero value.
func isNone(x api.Recipe) bool { return x.Piece == 0 && len(x.From) == 0 && len(x.Coef) == 0 }

// groupsOf are so many groups of data pieces: each data piece is in the next one of them, and some in none.
func groupsOf(r *rand.Rand, data, many, none int) [][]int {
	groups := make([][]int, many)
	for place, i := range r.Perm(data)[min(none, data-many):] {
		groups[place%many] = append(groups[place%many], i)
	}
	for _, group := range groups {
		slices.Sort(group)
	}
	return groups
}

// anyCode is a code without errors that has so many pieces.
func anyCode(r *rand.Rand, pieces int) api.Code {
	for {
		c := api.Code{Data: 1 + r.Intn(pieces), Globals: r.Intn(api.MaxGlobals + 1)}
		if many := pieces - c.Data - c.Globals; many > 0 && many <= c.Data {
			c.Groups = groupsOf(r, c.Data, many, r.Intn(c.Data)*r.Intn(2))
		}
		if c.Data+len(c.Groups)+c.Globals == pieces {
			return c
		}
	}
}

// anySet is a set of at most so many of n pieces.
func anySet(r *rand.Rand, n, most int) int {
	s := 0
	for range r.Intn(most + 1) {
		s |= 1 << r.Intn(n)
	}
	return s
}

// noise are n random bytes.
func noise(r *rand.Rand, n int) string {
	b := make([]byte, n)
	r.Read(b)
	return string(b)
}

// chosen are the pieces of a list.
func chosen(pieces []string, from []int) []string {
	var some []string
	for _, k := range from {
		some = append(some, pieces[k])
	}
	return some
}

// smallCodes are many codes of few pieces: the example, and all shapes of others.
func smallCodes(r *rand.Rand) []api.Code {
	codes := []api.Code{
		example(), {Data: 1}, {Data: 7}, {Data: 1, Groups: [][]int{{0}}, Globals: 4}, {Data: 3, Groups: [][]int{}, Globals: 4}, {Data: 3, Groups: [][]int{{1}, {0}, {2}}, Globals: 1}, {Data: 4, Groups: [][]int{{0, 1, 2, 3}}, Globals: 2}, {Data: 5, Groups: [][]int{{1, 4}}, Globals: 1}, {Data: 4, Groups: [][]int{{2, 3}, {0}}},
	}
	for k := range 40 {
		codes = append(codes, anyCode(r, 1+k%8))
	}
	return codes
}

// greatCodes are codes of as many pieces as there may be, and some of a few less.
func greatCodes(r *rand.Rand) []api.Code {
	codes := []api.Code{{Data: 12, Globals: 4}, {Data: 16}, {Data: 8, Groups: [][]int{{0, 1}, {2, 3}, {4, 5}, {6, 7}}, Globals: 4}, {Data: 8, Groups: [][]int{{0}, {1}, {2}, {3}, {4}, {5}, {6}, {7}}}}
	for k := range 8 {
		codes = append(codes, anyCode(r, api.MaxBest-k%4))
	}
	return codes
}
