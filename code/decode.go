package code

import (
	"iter"
	"math/bits"
	"slices"
	"strings"

	"quietus/api"
	"quietus/gf"
)

// Recoverable reports whether a chunk can be made again from a set of pieces.
func Recoverable(c api.Code, mask int) bool {
	return Check(c) == api.OK && isSet(c, mask) && suffices(c, parities(c), mask)
}

// Decode returns the chunk of n bytes that has some pieces.
func Decode(c api.Code, n, mask int, pieces []string) (string, api.Errno) {
	if e := Check(c); e != api.OK {
		return "", e
	}
	if n < 0 || n > api.MaxChunk || !isSet(c, mask) || !fit(c, n, mask, pieces) {
		return "", api.ErrArg
	}
	filled, ok := solve(c, n, mask, pieces)
	if !ok {
		return "", api.ErrLost
	}
	data := strings.Clone(filled[:n]) // a single data piece would be the argument itself
	// If what is behind the n bytes is not zero, one of the pieces differs as well: they determine it.
	for k, piece := range encode(c, data) {
		if has(mask, k) && piece != pieces[k] {
			return "", api.ErrCorrupt
		}
	}
	return data, api.OK
}

// Distance returns the least number of pieces whose loss is not recoverable.
func Distance(c api.Code) (int, api.Errno) {
	if e := Check(c); e != api.OK {
		return 0, e
	}
	rows, least := parities(c), count(c) // where all pieces are lost, nothing is recoverable
	all := 1<<least - 1
	for lost := range losses(least) {
		if !suffices(c, rows, all&^lost) {
			least = bits.OnesCount(uint(lost))
			break
		}
	}
	return least, api.OK
}

// isSet says whether a number is a set of pieces of a code.
func isSet(c api.Code, mask int) bool { return mask>>count(c) == 0 }

// fit says whether there is an entry for each piece, and those of a set of pieces are as long as the pieces of a chunk of n bytes.
func fit(c api.Code, n, mask int, pieces []string) bool {
	if len(pieces) != count(c) {
		return false
	}
	for k, piece := range pieces {
		if has(mask, k) && len(piece) != size(c, n) {
			return false
		}
	}
	return true
}

// losses yields all sets of so many pieces but the empty one: those of one piece, then those of two, and so on.
func losses(pieces int) iter.Seq[int] {
	return func(yield func(int) bool) {
		for many := 1; many <= pieces; many++ {
			for set := 1<<many - 1; set < 1<<pieces; set = next(set) {
				if !yield(set) {
					return
				}
			}
		}
	}
}

// next returns the next greater number with as many bits: the highest bit of the lowest run goes one place up, and the others of the run go to the bottom.
func next(set int) int {
	low := set & -set
	up := set + low
	return up | (set^up)/low>>2
}

// suffices says whether a chunk can be made again from a set of pieces, given the rows of the parities. The equations end as soon as the stairs are full.
func suffices(c api.Code, rows [][]uint8, mask int) bool {
	lost := missing(c, mask)
	s := &stairs{width: len(lost)}
	equations(rows, mask>>c.Data, lost, func(int) string { return "" })(s.add)
	return s.full()
}

// solve returns the data pieces of a chunk of n bytes, one after the other, and whether the set suffices for them.
func solve(c api.Code, n, mask int, pieces []string) (string, bool) {
	rows, lost := parities(c), missing(c, mask)
	data := slices.Clone(pieces[:c.Data])
	for _, i := range lost {
		data[i] = strings.Repeat("\x00", size(c, n))
	}
	s := &stairs{width: len(lost)}
	equations(rows, mask>>c.Data, lost, func(k int) string {
		known, _ := gf.Combine(rows[k], data) // there are as many coefficients as data pieces, which are equally long
		return gf.Sum(pieces[c.Data+k], known)
	})(s.add)
	if !s.full() {
		return "", false
	}
	for j, piece := range s.results() {
		data[lost[j]] = piece
	}
	return strings.Join(data, ""), true
}

// missing returns the data pieces that are not in a set.
func missing(c api.Code, mask int) []int {
	lost := make([]int, 0, c.Data)
	for i := range c.Data {
		if !has(mask, i) {
			lost = append(lost, i)
		}
	}
	return lost
}

// equations yields, for each of the parities in a set, its coefficients of the lost data pieces, and then the bytes that sum gives for it. The other coefficients decide nothing, as the data pieces to which they belong are there.
func equations(rows [][]uint8, set int, lost []int, sum func(k int) string) iter.Seq[[]uint8] {
	return func(yield func([]uint8) bool) {
		for k, row := range rows {
			if !has(set, k) {
				continue
			}
			equation := make([]uint8, len(lost))
			for j, i := range lost {
				equation[j] = row[i]
			}
			if !yield(append(equation, sum(k)...)) {
				return
			}
		}
	}
}
