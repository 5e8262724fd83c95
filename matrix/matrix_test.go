package matrix_test

import (
	"math/rand"
	"slices"
	"testing"

	"quietus/api"
	"quietus/matrix"
)

func TestCheck(t *testing.T) {
	for _, m := range [][][]uint8{
		nil, {}, {nil}, {{}}, {nil, {}}, {{}, nil, {}}, {{0}}, {{1, 2}, {3, 4}, {5, 6}}, zeros(48, 48), zeros(48, 0), zeros(48, 1), zeros(1, 48), make([][]uint8, 48),
	} {
		if e := matrix.Check(m); e != api.OK {
			t.Error("P5.1: a valid matrix of so many rows:", len(m), e)
		}
	}
	for _, w := range wrongs() {
		if e := matrix.Check(w.m); e != w.e {
			t.Errorf("P5.1: %s: %d, not %d", w.name, e, w.e)
		}
	}
}

// TestCheckFirst gives invalid matrices to all other functions, with other arguments that fit and that do not.
func TestCheckFirst(t *testing.T) {
	for _, w := range wrongs() {
		if p, e := matrix.Transpose(w.m); len(p) > 0 || e != w.e {
			t.Error("P5.1: Transpose:", w.name, e)
		}
		if rows, pivots, e := matrix.Reduce(w.m); len(rows) > 0 || len(pivots) > 0 || e != w.e {
			t.Error("P5.1: Reduce:", w.name, e)
		}
		if n, e := matrix.Rank(w.m); n != 0 || e != w.e {
			t.Error("P5.1: Rank:", w.name, e)
		}
		if p, e := matrix.Inverse(w.m); len(p) > 0 || e != w.e {
			t.Error("P5.1: Inverse:", w.name, e)
		}
		for _, n := range []int{len(w.m), len(w.m) + 1, 0, 1, 49, 1 << 10} {
			if x, kernel, e := matrix.Solve(w.m, make([]uint8, n)); len(x) > 0 || len(kernel) > 0 || e != w.e {
				t.Error("P5.1: Solve:", w.name, n, e)
			}
		}
		for _, n := range []int{len(w.m[0]), 0, 1, 48, 49, 1 << 10} {
			for _, x := range []uint8{0, 1} {
				if c, e := matrix.Express(w.m, slices.Repeat([]uint8{x}, n)); len(c) > 0 || e != w.e {
					t.Error("P5.1: Express:", w.name, n, e)
				}
			}
		}
	}
}

// TestCheckBothFactors gives invalid matrices to Product, as each factor and as both.
func TestCheckBothFactors(t *testing.T) {
	for _, w := range wrongs() {
		for _, m := range [][][]uint8{nil, {{}}, {{1}}, {{1, 2}}, {{1}, {2}}, zeros(len(w.m[0])%48, len(w.m)%48), zeros(48, 48)} {
			if p, e := matrix.Product(w.m, m); len(p) > 0 || e != w.e {
				t.Error("P5.1: Product, the first factor:", w.name, e)
			}
			if p, e := matrix.Product(m, w.m); len(p) > 0 || e != w.e {
				t.Error("P5.1: Product, the second factor:", w.name, e)
			}
		}
		for _, v := range wrongs() {
			if p, e := matrix.Product(w.m, v.m); len(p) > 0 || e != w.e {
				t.Error("P5.1: Product, both factors:", w.name, v.name, e)
			}
		}
	}
}

func TestProductExamples(t *testing.T) {
	for _, x := range []struct{ a, b, want [][]uint8 }{
		{[][]uint8{{1, 2}}, [][]uint8{{3}, {4}}, [][]uint8{{11}}},
		{[][]uint8{{3}, {4}}, [][]uint8{{1, 2}}, [][]uint8{{3, 6}, {4, 8}}},
		{[][]uint8{{128}}, [][]uint8{{2}}, [][]uint8{{29}}},
		{[][]uint8{{1, 1}, {0, 1}}, [][]uint8{{1, 0}, {5, 1}}, [][]uint8{{4, 1}, {5, 1}}},
		{[][]uint8{{1, 0}, {5, 1}}, [][]uint8{{1, 1}, {0, 1}}, [][]uint8{{1, 1}, {5, 4}}},
		{[][]uint8{{7, 7}}, [][]uint8{{9, 1}, {9, 1}}, [][]uint8{{0, 0}}},
		{nil, nil, nil},
		{[][]uint8{}, nil, nil},
		{[][]uint8{{}, nil, {}}, nil, [][]uint8{{}, {}, {}}},
		{[][]uint8{{1, 2}}, [][]uint8{{}, nil}, [][]uint8{{}}},
		{[][]uint8{{1}, {2}, {3}}, [][]uint8{{}}, [][]uint8{{}, {}, {}}},
	} {
		if p, e := matrix.Product(x.a, x.b); !same(p, x.want) || e != api.OK {
			t.Error("P5.2: Product of", x.a, x.b, p, e)
		}
	}
}

func TestProductInvalid(t *testing.T) {
	for rows := range 4 {
		for inner := range 4 {
			for other := range 4 {
				for cols := range 4 {
					a, b, columns := zeros(rows, inner), zeros(other, cols), inner
					if rows == 0 {
						columns = 0
					}
					if _, e := matrix.Product(a, b); (e == api.OK) != (columns == other) {
						t.Error("P5.2: Product of so many rows and columns:", rows, inner, other, cols, e)
					}
				}
			}
		}
	}
	for _, x := range [][2][][]uint8{
		{nil, {{}}}, {nil, {{1}}}, {{{1}}, nil}, {{{}}, {{}}}, {{{1, 2}}, {{1, 2}}}, {{{1}, {2}}, {{1}, {2}}}, {zeros(48, 48), zeros(47, 48)}, {zeros(1, 47), zeros(48, 1)},
	} {
		if p, e := matrix.Product(x[0], x[1]); len(p) > 0 || e != api.ErrArg {
			t.Error("P5.2: Product of", x[0], x[1], p, e)
		}
	}
}

func TestProduct(t *testing.T) {
	r := rand.New(rand.NewSource(1))
	for round := range 600 {
		rows, inner, cols := max(1, size(r)), size(r), size(r)
		if round == 0 {
			rows, inner, cols = 48, 48, 48
		}
		if inner == 0 {
			cols = 0
		}
		a, b := noises(r, rows, inner), noises(r, inner, cols)
		if p, e := matrix.Product(a, b); !same(p, wantProduct(a, b, cols)) || e != api.OK {
			t.Fatal("P5.2: Product of so many rows and columns:", rows, inner, cols, e)
		}
	}
	for x := range 256 {
		all := []uint8{}
		for y := range 256 {
			if all = append(all, uint8(y)); len(all) < 32 {
				continue
			}
			a, b := [][]uint8{{uint8(x)}}, [][]uint8{all}
			if p, e := matrix.Product(a, b); !same(p, wantProduct(a, b, 32)) || e != api.OK {
				t.Fatal("P5.2: Product of one element and many:", x, all, p, e)
			}
			all = nil
		}
	}
}

func TestTranspose(t *testing.T) {
	for _, x := range [][2][][]uint8{
		{{{1, 2}, {3, 4}}, {{1, 3}, {2, 4}}}, {{{1, 2, 3}}, {{1}, {2}, {3}}}, {{{1}, {2}, {3}}, {{1, 2, 3}}}, {{{9}}, {{9}}}, {nil, nil}, {{}, nil}, {{{}}, nil}, {{{}, nil, {}}, nil},
	} {
		if f, e := matrix.Transpose(x[0]); !same(f, x[1]) || e != api.OK {
			t.Error("P5.2: Transpose of", x[0], f, e)
		}
	}
	r := rand.New(rand.NewSource(2))
	for rows := range 49 {
		for _, cols := range []int{0, 1, 2, 5, 47, 48} {
			m := noises(r, rows, cols)
			want := flipped(m, cols)
			if rows == 0 {
				want = nil
			}
			if f, e := matrix.Transpose(m); !same(f, want) || e != api.OK {
				t.Fatal("P5.2: Transpose of so many rows and columns:", rows, cols, e)
			}
		}
	}
}

func TestReduceExamples(t *testing.T) {
	for _, x := range []struct {
		m, rows [][]uint8
		pivots  []int
	}{
		{[][]uint8{{0, 2, 4}, {0, 1, 2}, {1, 0, 1}}, [][]uint8{{1, 0, 1}, {0, 1, 2}}, []int{0, 1}},
		{nil, nil, nil},
		{[][]uint8{}, nil, nil},
		{[][]uint8{{}}, nil, nil},
		{[][]uint8{{}, nil, {}}, nil, nil},
		{[][]uint8{{0}}, nil, nil},
		{zeros(48, 48), nil, nil},
		{[][]uint8{{0}, {142}, {0}}, [][]uint8{{1}}, []int{0}},
		{[][]uint8{{2}}, [][]uint8{{1}}, []int{0}},
		{[][]uint8{{0, 2, 2}}, [][]uint8{{0, 1, 1}}, []int{1}},
		{[][]uint8{{0, 0, 7}}, [][]uint8{{0, 0, 1}}, []int{2}},
		{[][]uint8{{1, 1}, {1, 1}, {1, 1}}, [][]uint8{{1, 1}}, []int{0}},
		{[][]uint8{{0, 0, 1}, {0, 1, 0}, {1, 0, 0}}, identity(3), []int{0, 1, 2}},
		{[][]uint8{{1, 1, 1}, {0, 1, 1}, {0, 0, 1}}, identity(3), []int{0, 1, 2}},
		{[][]uint8{{1, 5, 0, 7}, {1, 5, 1, 7}}, [][]uint8{{1, 5, 0, 7}, {0, 0, 1, 0}}, []int{0, 2}},
		{[][]uint8{{2, 128}, {4, 29}}, [][]uint8{{1, 64}}, []int{0}},
		{identity(48), identity(48), r48()},
	} {
		rows, pivots, e := matrix.Reduce(x.m)
		if !same(rows, x.rows) || !slices.Equal(pivots, x.pivots) || e != api.OK {
			t.Error("P5.3: Reduce of", x.m, rows, pivots, e)
		}
		if n, e := matrix.Rank(x.m); n != len(x.rows) || e != api.OK {
			t.Error("P5.3: Rank of", x.m, n, e)
		}
	}
}

// r48 are the numbers from 0 to 47.
func r48() []int {
	var l []int
	for i := range 48 {
		l = append(l, i)
	}
	return l
}

// TestReduce mixes matrices in reduced row echelon form, which are to be found again.
func TestReduce(t *testing.T) {
	r := rand.New(rand.NewSource(3))
	for round := range 2000 {
		rows, cols := size(r), size(r)
		if round == 0 {
			rows, cols = 48, 48
		}
		rank := 0
		if n := min(rows, cols); n > 0 {
			rank = n - r.Intn(n+1)*r.Intn(2)
		}
		want, places := echelon(r, rank, cols)
		m := mixed(r, want, rows, cols)
		got, pivots, e := matrix.Reduce(m)
		if !same(got, want) || !slices.Equal(pivots, places) || e != api.OK {
			t.Fatal("P5.3: Reduce of", m, got, pivots, e, "but it was", want)
		}
		if n, e := matrix.Rank(m); n != rank || e != api.OK {
			t.Fatal("P5.3: Rank of", m, n, e, "but it was", rank)
		}
	}
}

// TestReduceForm checks, for all matrices of a few elements, what P5.3 says about the form; and that each row of one matrix is a linear combination of the rows of the other one, by trying all coefficients.
func TestReduceForm(t *testing.T) {
	for k := range 4096 {
		v := six(k)
		m := [][]uint8{v[:3], v[3:]}
		rows, pivots, e := matrix.Reduce(m)
		if e != api.OK || len(rows) != len(pivots) || len(rows) > 2 {
			t.Fatal("P5.3: Reduce of", m, rows, pivots, e)
		}
		for i, p := range pivots {
			first := slices.IndexFunc(rows[i], func(x uint8) bool { return x != 0 })
			if first != p || rows[i][p] != 1 || i > 0 && pivots[i-1] >= p {
				t.Fatal("P5.3: pivots of", m, rows, pivots)
			}
			for other, row := range rows {
				if other != i && row[p] != 0 {
					t.Fatal("P5.3: not the only element of its column that is not 0:", m, rows, p)
				}
			}
		}
		if k%16 == 5 && (!spanned(rows, m) || !spanned(m, rows)) {
			t.Fatal("P5.3: other linear combinations:", m, rows)
		}
	}
}

// spanned says whether each row of l, of three elements, is a linear combination of at most two rows of m.
func spanned(l, m [][]uint8) bool {
	for _, row := range l {
		found := false
		for c := 0; c < 1<<16 && !found; c++ {
			found = slices.Equal(combined(3, []uint8{uint8(c), uint8(c >> 8)}, m), row)
		}
		if !found {
			return false
		}
	}
	return true
}
