package matrix_test

import (
	"math/rand"
	"slices"

	"quietus/api"
)

// products has the products of all pairs of bytes: of polynomials over GF(2), modulo the polynomial 285.
var products = func() (all [256][256]uint8) {
	for a := range 256 {
		for b := range 256 {
			p := 0
			for k := range 8 {
				p ^= (b >> k & 1) * a << k
			}
			for k := 6; k >= 0; k-- {
				p ^= (p >> (k + 8) & 1) * (285 << k)
			}
			all[a][b] = uint8(p)
		}
	}
	return all
}()

// wantMul is the product of two elements.
func wantMul(a, b uint8) uint8 { return products[a][b] }

// combined is the sum of rows of n elements with coefficients.
func combined(n int, coef []uint8, rows [][]uint8) []uint8 {
	sum := make([]uint8, n)
	for k, row := range rows {
		for j, x := range row {
			sum[j] ^= wantMul(coef[k], x)
		}
	}
	return sum
}

// wantProduct is the product of a matrix and one with the columns cols, as P5.2 describes it.
func wantProduct(a, b [][]uint8, cols int) [][]uint8 {
	var p [][]uint8
	for _, row := range a {
		p = append(p, combined(cols, row, b))
	}
	return p
}

// solves says whether y is a solution of the system of m and b.
func solves(m [][]uint8, b, y []uint8) bool {
	for i, row := range m {
		sum := uint8(0)
		for j, x := range row {
			sum ^= wantMul(x, y[j])
		}
		if sum != b[i] {
			return false
		}
	}
	return true
}

// same says whether two matrices are equal; empty lists are, nil or not.
func same(a, b [][]uint8) bool { return slices.EqualFunc(a, b, slices.Equal[[]uint8]) }

// cloned is a matrix in new memory.
func cloned(m [][]uint8) [][]uint8 {
	var c [][]uint8
	for _, row := range m {
		c = append(c, slices.Clone(row))
	}
	return c
}

// zeros is a matrix of zeros.
func zeros(rows, cols int) [][]uint8 {
	m := make([][]uint8, rows)
	for i := range m {
		m[i] = make([]uint8, cols)
	}
	return m
}

// identity is the square matrix with 1 on the diagonal, and 0 elsewhere.
func identity(n int) [][]uint8 {
	m := zeros(n, n)
	for i := range m {
		m[i][i] = 1
	}
	return m
}

// flipped is the matrix whose rows are the columns of m, of which there are cols.
func flipped(m [][]uint8, cols int) [][]uint8 {
	f := zeros(cols, len(m))
	for i, row := range m {
		for j, x := range row {
			f[j][i] = x
		}
	}
	return f
}

// noise is a row of n elements; in a third of the rows, most of them are 0.
func noise(r *rand.Rand, n int) []uint8 {
	row := make([]uint8, n)
	r.Read(row)
	if r.Intn(3) == 0 {
		for j := range row {
			if r.Intn(4) > 0 {
				row[j] = 0
			}
		}
	}
	return row
}

// noises is a matrix of such rows.
func noises(r *rand.Rand, rows, cols int) [][]uint8 {
	m := make([][]uint8, rows)
	for i := range m {
		m[i] = noise(r, cols)
	}
	return m
}

// echelon is a matrix in reduced row echelon form with so many rows and columns, and the columns of its pivots, which are drawn.
func echelon(r *rand.Rand, rows, cols int) (m [][]uint8, pivots []int) {
	pivots = r.Perm(cols)[:rows]
	slices.Sort(pivots)
	m = noises(r, rows, cols)
	for i, p := range pivots {
		clear(m[i][:p])
		for k := range m {
			m[k][p] = 0
		}
		m[i][p] = 1
	}
	return m, pivots
}

// mixed is a matrix of so many rows, at least those of m, that has the same linear combinations.
func mixed(r *rand.Rand, m [][]uint8, rows, cols int) [][]uint8 {
	l := cloned(m)
	for len(l) < rows {
		l = append(l, combined(cols, noise(r, len(m)), m))
	}
	if len(l) == 0 {
		return l
	}
	for range 5 * len(l) {
		i, k, c := r.Intn(len(l)), r.Intn(len(l)), uint8(1+r.Intn(255))
		if i == k {
			l[i] = combined(cols, []uint8{c}, l[i:i+1])
		} else {
			l[i] = combined(cols, []uint8{1, c}, [][]uint8{l[i], l[k]})
		}
	}
	r.Shuffle(len(l), func(i, k int) { l[i], l[k] = l[k], l[i] })
	return l
}

// six are six elements, each of them one of four: one list for each number up to 4095.
func six(k int) []uint8 {
	elements, v := []uint8{0, 1, 2, 142}, make([]uint8, 6)
	for i := range v {
		v[i] = elements[k>>(2*i)&3]
	}
	return v
}

// size is a number of rows or columns from 0 to the limit; mostly it is small.
func size(r *rand.Rand) int {
	switch r.Intn(20) {
	case 0:
		return api.MaxCols
	case 1:
		return r.Intn(api.MaxCols + 1)
	}
	return r.Intn(8)
}

// wrong is a matrix that is not valid, and the error of Check.
type wrong struct {
	name string
	m    [][]uint8
	e    api.Errno
}

// ragged is a matrix with rows of these lengths.
func ragged(lengths ...int) [][]uint8 {
	var m [][]uint8
	for _, n := range lengths {
		m = append(m, make([]uint8, n))
	}
	return m
}

// wrongs are matrices that break each limit, rows of different lengths at each end, and both at once.
func wrongs() []wrong {
	last, middle, many := zeros(api.MaxRows, api.MaxCols), zeros(api.MaxRows, 3), zeros(api.MaxRows+1, 5)
	last[api.MaxRows-1] = last[api.MaxRows-1][1:]
	middle[20] = make([]uint8, 4)
	many[7] = nil
	return []wrong{
		{"49 rows", zeros(49, 48), api.ErrLimit},
		{"49 rows of one element", zeros(49, 1), api.ErrLimit},
		{"49 empty rows", zeros(49, 0), api.ErrLimit},
		{"49 rows that are nil", make([][]uint8, 49), api.ErrLimit},
		{"very many rows", make([][]uint8, 1<<20), api.ErrLimit},
		{"a row of 49", zeros(1, 49), api.ErrLimit},
		{"a very long row", zeros(1, 1<<20), api.ErrLimit},
		{"49 rows of 49", zeros(49, 49), api.ErrLimit},
		{"48 rows of 49", zeros(48, 49), api.ErrLimit},
		{"the first row of 49", ragged(49, 48, 48), api.ErrLimit},
		{"the second row of 49", ragged(48, 49, 48), api.ErrLimit},
		{"the last row of 49", ragged(48, 48, 49), api.ErrLimit},
		{"a row of 49 after different ones", ragged(1, 2, 49), api.ErrLimit},
		{"a row of 49 after an empty one", ragged(0, 49), api.ErrLimit},
		{"49 rows that differ", many, api.ErrLimit},
		{"an empty row after one element", ragged(1, 0), api.ErrArg},
		{"one element after an empty row", ragged(0, 1), api.ErrArg},
		{"a nil row after one element", [][]uint8{{7}, nil}, api.ErrArg},
		{"a shorter row", ragged(2, 1), api.ErrArg},
		{"a longer row", ragged(1, 2), api.ErrArg},
		{"a longer row in the end", ragged(3, 3, 3, 4), api.ErrArg},
		{"a longer row between others", ragged(3, 3, 4, 3), api.ErrArg},
		{"a shorter row in the end", ragged(3, 3, 3, 2), api.ErrArg},
		{"the first row is shorter", ragged(2, 3, 3, 3), api.ErrArg},
		{"the first row is longer", ragged(4, 3, 3, 3), api.ErrArg},
		{"the last of 48 rows", last, api.ErrArg},
		{"one of 48 rows", middle, api.ErrArg},
		{"two rows of 48 and 47", ragged(48, 47), api.ErrArg},
	}
}
