package locate

import (
	"math/bits"
	"slices"

	"quietus/api"
	"quietus/code"
	"quietus/gf"
)

// claims are what given pieces say about the data pieces: each row is the coefficients of a piece, as many as there are data pieces, and then its bytes.
type claims struct {
	data int
	rows [][]uint8
}

// claim returns the claims of a set of pieces, for right arguments.
func claim(c api.Code, mask int, pieces []string) claims {
	rows, _ := code.Rows(c) // the code has been checked
	for piece := range members(mask) {
		rows[piece] = append(rows[piece], pieces[piece]...)
	}
	return claims{c.Data, rows}
}

// fit says whether there are data pieces for which the rows of a set are right: whether no sum of multiples of them has bytes, but no coefficients.
func (s claims) fit(set int) bool {
	steps := make([][]uint8, s.data) // for each data piece, the row whose first coefficient belongs to it
	// reduce takes multiples of the steps from a row until no step begins where it does. If it has a coefficient then, it is a new step; otherwise reduce returns its bytes.
	reduce := func(row []uint8) []uint8 {
		for k, step := range steps {
			switch {
			case row[k] == 0:
			case step == nil:
				steps[k] = row
				return nil
			default:
				cancel(row, step, k)
			}
		}
		return row[s.data:]
	}
	for piece := range members(set) {
		if !isZero(reduce(slices.Clone(s.rows[piece]))) {
			return false
		}
	}
	return true
}

// clash returns the least part of a set that does not fit.
func (s claims) clash(mask int) (int, api.Errno) {
	if s.fit(mask) {
		return 0, api.ErrNone
	}
	least := mask
search:
	for many := range bits.OnesCount(uint(mask)) {
		for part := range parts(mask, many) {
			if !s.fit(part) {
				least = part
				break search
			}
		}
	}
	return least, api.OK
}

// cancel takes from a row the multiple of another one, which begins at a place, that makes it 0 there.
func cancel(row, step []uint8, at int) {
	inverse, _ := gf.Inv(step[at]) // it is not 0
	by := gf.Mul(row[at], inverse)
	for k := at; k < len(row); k++ {
		row[k] ^= gf.Mul(by, step[k])
	}
}

// isZero says whether all bytes are 0.
func isZero(list []uint8) bool {
	return !slices.ContainsFunc(list, func(b uint8) bool { return b != 0 })
}
