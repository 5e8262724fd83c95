package matrix_test

import (
	"math/rand"
	"slices"
	"testing"

	"quietus/api"
	"quietus/matrix"
)

func TestSolveExamples(t *testing.T) {
	for _, x := range []struct {
		m      [][]uint8
		b, x   []uint8
		kernel [][]uint8
	}{
		{[][]uint8{{1, 0, 1}, {0, 1, 2}}, []uint8{5, 6}, []uint8{5, 6, 0}, [][]uint8{{1, 2, 1}}},
		{nil, nil, nil, nil},
		{nil, []uint8{}, nil, nil},
		{[][]uint8{{}, nil}, []uint8{0, 0}, nil, nil},
		{[][]uint8{{2}}, []uint8{1}, []uint8{142}, nil},
		{[][]uint8{{0}}, []uint8{0}, []uint8{0}, [][]uint8{{1}}},
		{[][]uint8{{0, 0}}, []uint8{0}, []uint8{0, 0}, identity(2)},
		{[][]uint8{{0, 2, 0}}, []uint8{4}, []uint8{0, 2, 0}, [][]uint8{{1, 0, 0}, {0, 0, 1}}},
		{[][]uint8{{1, 3, 5}}, []uint8{9}, []uint8{9, 0, 0}, [][]uint8{{3, 1, 0}, {5, 0, 1}}},
		{[][]uint8{{0, 0, 1}, {1, 7, 0}}, []uint8{8, 9}, []uint8{9, 0, 8}, [][]uint8{{7, 1, 0}}},
		{[][]uint8{{1, 1}, {1, 1}}, []uint8{3, 3}, []uint8{3, 0}, [][]uint8{{1, 1}}},
		{[][]uint8{{1, 0}, {0, 0}, {0, 1}}, []uint8{3, 0, 4}, []uint8{3, 4}, nil},
		{zeros(48, 48), make([]uint8, 48), make([]uint8, 48), identity(48)},
		{identity(48), slices.Repeat([]uint8{201}, 48), slices.Repeat([]uint8{201}, 48), nil},
	} {
		if y, kernel, e := matrix.Solve(x.m, x.b); !slices.Equal(y, x.x) || !same(kernel, x.kernel) || e != api.OK {
			t.Error("P5.4: Solve of", x.m, x.b, y, kernel, e)
		}
	}
}

func TestSolveInvalid(t *testing.T) {
	for _, x := range []struct {
		m [][]uint8
		b []uint8
		e api.Errno
	}{
		{[][]uint8{{1, 1}, {1, 1}}, []uint8{1, 2}, api.ErrNone},
		{[][]uint8{{0}}, []uint8{1}, api.ErrNone},
		{[][]uint8{{}}, []uint8{1}, api.ErrNone},
		{[][]uint8{{}, {}}, []uint8{0, 255}, api.ErrNone},
		{[][]uint8{{0, 0}, {0, 1}}, []uint8{7, 0}, api.ErrNone},
		{[][]uint8{{1, 0}, {0, 1}, {1, 1}}, []uint8{1, 2, 4}, api.ErrNone},
		{zeros(48, 48), append(make([]uint8, 47), 1), api.ErrNone},
		{nil, []uint8{0}, api.ErrArg},
		{nil, []uint8{1}, api.ErrArg},
		{[][]uint8{{}}, nil, api.ErrArg},
		{[][]uint8{{1}}, nil, api.ErrArg},
		{[][]uint8{{1}}, []uint8{1, 1}, api.ErrArg},
		{[][]uint8{{1}}, []uint8{1, 0}, api.ErrArg},
		{[][]uint8{{1, 2}}, []uint8{1, 1}, api.ErrArg},
		{[][]uint8{{1}, {2}}, []uint8{1}, api.ErrArg},
		{[][]uint8{{0}, {0}}, []uint8{1}, api.ErrArg},
		{[][]uint8{{0}, {0}}, []uint8{1, 1, 1}, api.ErrArg},
		{zeros(48, 48), make([]uint8, 49), api.ErrArg},
		{zeros(48, 48), slices.Repeat([]uint8{1}, 47), api.ErrArg},
		{zeros(1, 1), make([]uint8, 1<<16), api.ErrArg},
	} {
		if y, kernel, e := matrix.Solve(x.m, x.b); len(y) > 0 || len(kernel) > 0 || e != x.e {
			t.Errorf("P5.4: Solve of %d and %d: %d %d %d, not %d", x.m, x.b, y, kernel, e, x.e)
		}
	}
}

// system is a system of linear equations with the solutions that Solve is to return: x is nil if there is none.
type system struct {
	m      [][]uint8
	b, x   []uint8
	kernel [][]uint8
}

// systems are made from reduced ones, whose solutions can be read off them, by mixing their equations.
func systems(r *rand.Rand, many int) []system {
	var l []system
	for i := range many {
		rows, cols := max(1, size(r)), size(r)
		if i < 3 {
			rows, cols = 48, 48
		}
		solvable := i < 2 || r.Intn(4) > 0
		most := min(rows, cols)
		if !solvable {
			most = min(rows-1, cols)
		}
		rank := most - r.Intn(most+1)*min(i, 1)*r.Intn(2)
		l = append(l, newSystem(r, rows, cols, rank, solvable))
	}
	return l
}

// newSystem returns a system with a rank; if it is not solvable, the rank is less than the number of its rows.
func newSystem(r *rand.Rand, rows, cols, rank int, solvable bool) system {
	m, pivots := echelon(r, rank, cols)
	s := system{x: make([]uint8, cols)}
	both := cloned(m)
	for i, p := range pivots {
		s.x[p] = uint8(r.Intn(256))
		both[i] = append(both[i], s.x[p])
	}
	for free := range cols {
		if slices.Contains(pivots, free) {
			continue
		}
		row := make([]uint8, cols)
		row[free] = 1
		for i, p := range pivots {
			row[p] = m[i][free]
		}
		s.kernel = append(s.kernel, row)
	}
	if !solvable {
		s.x, s.kernel = nil, nil
		both = append(both, append(make([]uint8, cols), uint8(1+r.Intn(255))))
	}
	for _, row := range mixed(r, both, rows, cols+1) {
		s.m, s.b = append(s.m, row[:cols]), append(s.b, row[cols])
	}
	return s
}

func TestSolve(t *testing.T) {
	for _, s := range systems(rand.New(rand.NewSource(4)), 2000) {
		want := api.OK
		if s.x == nil {
			want = api.ErrNone
		}
		x, kernel, e := matrix.Solve(s.m, s.b)
		if !slices.Equal(x, s.x) || !same(kernel, s.kernel) || e != want {
			t.Fatalf("P5.4: Solve of %d and %d: %d %d %d, not %d %d %d", s.m, s.b, x, kernel, e, s.x, s.kernel, want)
		}
		if e == api.OK && !solves(s.m, s.b, x) {
			t.Fatal("P5.4: no solution:", s.m, s.b, x)
		}
		for _, row := range kernel {
			if !solves(s.m, make([]uint8, len(s.m)), row) {
				t.Fatal("P5.4: no row of the kernel:", s.m, row)
			}
		}
	}
}

func TestInverseExamples(t *testing.T) {
	for _, x := range [][2][][]uint8{
		{{{1, 1}, {0, 1}}, {{1, 1}, {0, 1}}}, {nil, nil}, {{}, nil}, {{{2}}, {{142}}}, {{{1}}, {{1}}}, {{{0, 2}, {1, 0}}, {{0, 1}, {142, 0}}}, {{{1, 2}, {3, 4}}, wantInverse(1, 2, 3, 4)}, {identity(48), identity(48)},
	} {
		if p, e := matrix.Inverse(x[0]); !same(p, x[1]) || e != api.OK {
			t.Error("P5.5: Inverse of", x[0], p, e)
		}
	}
}

// wantInverse is the inverse of a matrix of two rows and columns: its adjugate, divided by its determinant.
func wantInverse(a, b, c, d uint8) [][]uint8 {
	determinant, inverse := wantMul(a, d)^wantMul(b, c), uint8(0)
	for wantMul(determinant, inverse) != 1 {
		inverse++
	}
	return [][]uint8{{wantMul(inverse, d), wantMul(inverse, b)}, {wantMul(inverse, c), wantMul(inverse, a)}}
}

func TestInverseInvalid(t *testing.T) {
	for rows := range 5 {
		for cols := range 5 {
			if rows == 0 {
				continue
			}
			m, want := zeros(rows, cols), api.ErrArg
			if rows == cols {
				want = api.ErrNone
			}
			if p, e := matrix.Inverse(m); len(p) > 0 || e != want {
				t.Error("P5.5: Inverse of zeros, so many rows and columns:", rows, cols, p, e)
			}
			for i := range min(rows, cols) {
				m[i][i] = 1
			}
			if p, e := matrix.Inverse(m); rows != cols && (len(p) > 0 || e != api.ErrArg) || rows == cols && e != api.OK {
				t.Error("P5.5: Inverse of ones, so many rows and columns:", rows, cols, p, e)
			}
		}
	}
	for _, x := range []struct {
		m [][]uint8
		e api.Errno
	}{
		{[][]uint8{{}}, api.ErrArg}, {zeros(48, 0), api.ErrArg}, {zeros(47, 48), api.ErrArg}, {zeros(48, 47), api.ErrArg}, {[][]uint8{{0}}, api.ErrNone}, {[][]uint8{{1, 1}, {1, 1}}, api.ErrNone}, {[][]uint8{{1, 2}, {2, 4}}, api.ErrNone}, {[][]uint8{{1, 0}, {1, 0}}, api.ErrNone}, {[][]uint8{{0, 1}, {0, 1}}, api.ErrNone}, {zeros(48, 48), api.ErrNone},
	} {
		if p, e := matrix.Inverse(x.m); len(p) > 0 || e != x.e {
			t.Errorf("P5.5: Inverse of %d: %d %d, not %d", x.m, p, e, x.e)
		}
	}
}

func TestInverse(t *testing.T) {
	r := rand.New(rand.NewSource(5))
	for round := range 500 {
		n := size(r)
		if round < 2 {
			n = 48
		}
		m := mixed(r, identity(n), n, n)
		p, e := matrix.Inverse(m)
		if e != api.OK || len(p) != n || !same(wantProduct(m, p, n), identity(n)) || !same(wantProduct(p, m, n), identity(n)) {
			t.Fatal("P5.5: Inverse of", m, p, e)
		}
		if n == 0 {
			continue
		}
		rank := n - 1 - r.Intn(n)*r.Intn(2)
		less, _ := echelon(r, rank, n)
		m = mixed(r, less, n, n)
		if p, e := matrix.Inverse(m); len(p) > 0 || e != api.ErrNone {
			t.Fatal("P5.5: Inverse of a matrix with a rank of", rank, m, p, e)
		}
	}
}

func TestExpressExamples(t *testing.T) {
	for _, x := range []struct {
		rows      [][]uint8
		row, coef []uint8
	}{
		{[][]uint8{{1, 1, 0}, {1, 1, 0}, {0, 1, 1}}, []uint8{1, 0, 1}, []uint8{1, 0, 1}},
		{nil, []uint8{0, 0}, nil},
		{nil, nil, nil},
		{[][]uint8{}, make([]uint8, 48), nil},
		{[][]uint8{{}, nil, {}}, nil, []uint8{0, 0, 0}},
		{[][]uint8{{0}, {2}, {1}}, []uint8{1}, []uint8{0, 142, 0}},
		{[][]uint8{{1, 0}}, []uint8{0, 0}, []uint8{0}},
		{[][]uint8{{0, 0}}, []uint8{0, 0}, []uint8{0}},
		{[][]uint8{{1, 2}, {2, 4}, {0, 1}}, []uint8{2, 5}, []uint8{2, 0, 1}},
		{[][]uint8{{1, 0}, {0, 1}, {1, 1}}, []uint8{1, 1}, []uint8{1, 1, 0}},
		{[][]uint8{{1, 1}, {0, 1}, {1, 0}}, []uint8{1, 0}, []uint8{1, 1, 0}},
		{identity(48), slices.Repeat([]uint8{77}, 48), slices.Repeat([]uint8{77}, 48)},
		{zeros(48, 48), make([]uint8, 48), make([]uint8, 48)},
	} {
		if c, e := matrix.Express(x.rows, x.row); !slices.Equal(c, x.coef) || e != api.OK {
			t.Error("P5.6: Express of", x.rows, x.row, c, e)
		}
	}
}

func TestExpressInvalid(t *testing.T) {
	for _, x := range []struct {
		rows [][]uint8
		row  []uint8
		e    api.Errno
	}{
		{nil, []uint8{0, 1}, api.ErrNone},
		{[][]uint8{}, []uint8{1}, api.ErrNone},
		{nil, append(make([]uint8, 47), 1), api.ErrNone},
		{[][]uint8{{1, 1}}, []uint8{1, 0}, api.ErrNone},
		{[][]uint8{{0, 0}, {0, 0}}, []uint8{0, 3}, api.ErrNone},
		{[][]uint8{{1, 0, 0}, {0, 1, 0}, {1, 1, 0}}, []uint8{0, 0, 1}, api.ErrNone},
		{nil, make([]uint8, 49), api.ErrLimit},
		{nil, make([]uint8, 1<<16), api.ErrLimit},
		{[][]uint8{{1}}, make([]uint8, 49), api.ErrLimit},
		{[][]uint8{{}}, slices.Repeat([]uint8{1}, 49), api.ErrLimit},
		{zeros(48, 48), make([]uint8, 49), api.ErrLimit},
		{zeros(48, 48), make([]uint8, 47), api.ErrArg},
		{zeros(1, 47), make([]uint8, 48), api.ErrArg},
		{[][]uint8{{1}}, nil, api.ErrArg},
		{[][]uint8{{0}}, []uint8{0, 0}, api.ErrArg},
		{[][]uint8{{1, 0}}, []uint8{1}, api.ErrArg},
		{[][]uint8{{1, 0}}, []uint8{1, 0, 0}, api.ErrArg},
		{[][]uint8{{0}}, []uint8{1, 1}, api.ErrArg},
		{[][]uint8{{}}, []uint8{0}, api.ErrArg},
		{[][]uint8{nil, {}}, []uint8{1}, api.ErrArg},
		{[][]uint8{{1}, {2}, {3}}, []uint8{1, 2, 3}, api.ErrArg},
	} {
		if c, e := matrix.Express(x.rows, x.row); len(c) > 0 || e != x.e {
			t.Errorf("P5.6: Express of %d and %d: %d %d, not %d", x.rows, x.row, c, e, x.e)
		}
	}
	for n := range 49 {
		if c, e := matrix.Express(nil, make([]uint8, n)); len(c) > 0 || e != api.OK {
			t.Error("P5.6: Express of no rows, and so many elements:", n, c, e)
		}
	}
}

// TestExpress gives the columns of systems as rows: the coefficients are the solutions.
func TestExpress(t *testing.T) {
	for _, s := range systems(rand.New(rand.NewSource(6)), 2000) {
		want, rows := api.OK, flipped(s.m, len(s.m[0]))
		if s.x == nil {
			want = api.ErrNone
		}
		if c, e := matrix.Express(rows, s.b); !slices.Equal(c, s.x) || e != want {
			t.Fatalf("P5.6: Express of %d and %d: %d %d, not %d %d", rows, s.b, c, e, s.x, want)
		}
	}
}

// TestExpressSearch finds the coefficients of two rows among all that there are.
func TestExpressSearch(t *testing.T) {
	for k := range 4096 {
		v := six(k)
		if k%17 > 0 && k > 300 {
			continue
		}
		rows, row := [][]uint8{v[:2], v[2:4]}, v[4:]
		found := searched(rows, row)
		c, e := matrix.Express(rows, row)
		switch {
		case len(found) == 0:
			if e != api.ErrNone {
				t.Fatal("P5.6: there are no coefficients:", rows, row, c, e)
			}
		case len(found) > 1:
			t.Fatal("P5.6: the coefficients are not unique:", rows, row, found)
		case !slices.Equal(c, found[0]) || e != api.OK:
			t.Fatal("P5.6: Express of", rows, row, c, e, "not", found[0])
		}
	}
}

// searched are all coefficients of two rows by which they make a row, with 0 for each row that is a linear combination of rows before it.
func searched(rows [][]uint8, row []uint8) [][]uint8 {
	empty := slices.Equal(rows[0], []uint8{0, 0})
	multiple := false
	for c := range 256 {
		multiple = multiple || slices.Equal(combined(2, []uint8{uint8(c)}, rows[:1]), rows[1])
	}
	var l [][]uint8
	for c := range 1 << 16 {
		coef := []uint8{uint8(c), uint8(c >> 8)}
		if empty && coef[0] != 0 || multiple && coef[1] != 0 {
			continue
		}
		if slices.Equal(combined(2, coef, rows), row) {
			l = append(l, coef)
		}
	}
	return l
}
