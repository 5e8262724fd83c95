package rebuild

import (
	"iter"
	"math/bits"
	"slices"

	"quietus/api"
	"quietus/code"
	"quietus/matrix"
)

// search is a search for available pieces from which the wanted ones can be made.
type search struct {
	rows              [][]uint8 // of all pieces
	available, wanted []int
}

// begin returns the search for the pieces of one set, where those of another one are not available, for right arguments.
func begin(c api.Code, gone, wanted int) search {
	rows, _ := code.Rows(c) // the code has been checked
	return search{rows, members((1<<len(rows) - 1) &^ gone), members(wanted)}
}

// first returns the first list of as few pieces as possible that make the wanted ones, and their recipes.
func (s search) first() ([]int, []api.Recipe, api.Errno) {
	for from, l := range s.least() {
		return from, l, api.OK
	}
	return nil, nil, api.ErrLost
}

// least yields all lists of as few pieces as possible that make the wanted ones, in order, and their recipes.
func (s search) least() iter.Seq2[[]int, []api.Recipe] {
	return func(yield func([]int, []api.Recipe) bool) {
		for from := range choices(s.available, s.fewest()) {
			if l, ok := s.recipes(from); ok && !yield(from, l) {
				return
			}
		}
	}
}

// fewest returns the number of pieces that have to be read at least, or 0 if the wanted ones cannot be made at all. Pieces that suffice still do so together with others: if no list of one less suffices, no shorter one does, and need not be tried.
func (s search) fewest() int {
	l, _ := s.recipes(s.available)
	many := reads(l)
shorter:
	for many > 0 {
		for from := range choices(s.available, many-1) {
			if l, ok := s.recipes(from); ok {
				many = reads(l)
				continue shorter
			}
		}
		break
	}
	return many
}

// recipes returns the recipes that make all wanted pieces from some others, and whether there are such.
func (s search) recipes(from []int) ([]api.Recipe, bool) {
	rows := make([][]uint8, len(from))
	for k, piece := range from {
		rows[k] = s.rows[piece]
	}
	l := make([]api.Recipe, 0, len(s.wanted))
	for _, piece := range s.wanted {
		coef, e := matrix.Express(rows, s.rows[piece])
		if e != api.OK {
			return nil, false
		}
		l = append(l, recipe(piece, from, coef))
	}
	return l, true
}

// recipe returns the recipe of a piece from others with coefficients, those with 0 left out.
func recipe(piece int, from []int, coef []uint8) api.Recipe {
	r := api.Recipe{Piece: piece}
	for k, by := range coef {
		if by != 0 {
			r.From = append(r.From, from[k])
			r.Coef = append(r.Coef, by)
		}
	}
	return r
}

// reads returns the number of different pieces that recipes read.
func reads(l []api.Recipe) int {
	set := 0
	for _, r := range l {
		for _, piece := range r.From {
			set |= 1 << piece
		}
	}
	return bits.OnesCount(uint(set))
}

// members returns the pieces of a set, in ascending order.
func members(set int) []int {
	var list []int
	for ; set > 0; set &= set - 1 {
		list = append(list, bits.TrailingZeros(uint(set)))
	}
	return list
}

// choices yields all lists of so many of some pieces, in order.
func choices(pieces []int, many int) iter.Seq[[]int] {
	return func(yield func([]int) bool) {
		list := make([]int, 0, many)
		var extend func(rest []int) bool
		extend = func(rest []int) bool {
			missing := many - len(list)
			if missing == 0 {
				return yield(slices.Clone(list))
			}
			for k := range len(rest) - missing + 1 {
				list = append(list, rest[k])
				if !extend(rest[k+1:]) {
					return false
				}
				list = list[:len(list)-1]
			}
			return true
		}
		extend(pieces)
	}
}
