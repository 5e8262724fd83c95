package matrix

import (
	"slices"

	"quietus/api"
	"quietus/gf"
)

// Solve returns a solution of a system of linear equations, and a basis of the solutions of the system with zeros on the right side.
func Solve(m [][]uint8, b []uint8) (x []uint8, kernel [][]uint8, e api.Errno) {
	if e := Check(m); e != api.OK {
		return nil, nil, e
	}
	if len(b) != len(m) {
		return nil, nil, api.ErrArg
	}
	n := columns(m)
	system := widened(m, 1)
	for i := range system {
		system[i][n] = b[i]
	}
	x, pivots, e := solution(system, n)
	if e != api.OK {
		return nil, nil, e
	}
	for free := range n {
		if !slices.Contains(pivots, free) {
			kernel = append(kernel, kernelRow(system, pivots, n, free))
		}
	}
	return x, kernel, api.OK
}

// Inverse returns the inverse of a matrix.
func Inverse(m [][]uint8) ([][]uint8, api.Errno) {
	if e := Check(m); e != api.OK {
		return nil, e
	}
	n := len(m)
	if columns(m) != n {
		return nil, api.ErrArg
	}
	both := widened(m, n)
	for i := range both {
		both[i][n+i] = 1
	}
	if len(reduce(both, n)) < n {
		return nil, api.ErrNone
	}
	return build(n, n, func(i, j int) uint8 { return both[i][n+j] }), api.OK
}

// Express returns the coefficients by which a row is a sum of other rows.
func Express(rows [][]uint8, row []uint8) ([]uint8, api.Errno) {
	if e := Check(rows); e != api.OK {
		return nil, e
	}
	if len(row) > api.MaxCols {
		return nil, api.ErrLimit
	}
	n := len(rows)
	if n > 0 && len(row) != columns(rows) {
		return nil, api.ErrArg
	}
	// The coefficients solve a system with an equation for each element. Its columns without a pivot are the rows that are combinations of rows before them.
	system := build(len(row), n+1, func(j, k int) uint8 {
		if k == n {
			return row[j]
		}
		return rows[k][j]
	})
	coef, _, e := solution(system, n)
	return coef, e
}

// solution reduces a system with n unknowns, whose last column is its right side, and returns its solution that is 0 in all columns without a pivot, and the columns of the pivots.
func solution(system [][]uint8, n int) (x []uint8, pivots []int, e api.Errno) {
	pivots = reduce(system, n)
	for _, row := range system[len(pivots):] {
		if row[n] != 0 {
			return nil, nil, api.ErrNone
		}
	}
	x = make([]uint8, n)
	for i, p := range pivots {
		x[p] = system[i][n]
	}
	return x, pivots, api.OK
}

// kernelRow returns the solution of a reduced system with n unknowns and zeros on the right side that is 1 in one column without a pivot, and 0 in all others.
func kernelRow(system [][]uint8, pivots []int, n, free int) []uint8 {
	x := make([]uint8, n)
	x[free] = 1
	for i, p := range pivots {
		x[p] = system[i][free] // minus is plus
	}
	return x
}

// reduce brings rows into the form of Reduce, as far as their first n columns, and returns the columns of the pivots. Rows without a pivot, which are 0 in these columns, come last.
func reduce(rows [][]uint8, n int) []int {
	var pivots []int
search:
	for col := range n {
		top := len(pivots)
		for i := top; i < len(rows); i++ {
			inverse, e := gf.Inv(rows[i][col])
			if e != api.OK {
				continue
			}
			rows[top], rows[i] = rows[i], rows[top]
			pivot := rows[top]
			fill(pivot, func(j int) uint8 { return gf.Mul(inverse, pivot[j]) })
			for k, row := range rows {
				if c := row[col]; k != top && c != 0 {
					fill(row, func(j int) uint8 { return row[j] ^ gf.Mul(c, pivot[j]) })
				}
			}
			pivots = append(pivots, col)
			continue search
		}
	}
	return pivots
}
