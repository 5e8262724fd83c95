package matrix_test

import (
	"bytes"
	"math/rand"
	"slices"
	"testing"

	"quietus/api"
	"quietus/matrix"
)

// product is Product of factors that fit.
func product(t *testing.T, a, b [][]uint8) [][]uint8 {
	t.Helper()
	p, e := matrix.Product(a, b)
	if e != api.OK {
		t.Fatal("P5.2: Product of", a, b, e)
	}
	return p
}

// transposed is Transpose of a valid matrix.
func transposed(t *testing.T, m [][]uint8) [][]uint8 {
	t.Helper()
	f, e := matrix.Transpose(m)
	if e != api.OK {
		t.Fatal("P5.2: Transpose of", m, e)
	}
	return f
}

// rank is Rank of a valid matrix.
func rank(t *testing.T, m [][]uint8) int {
	t.Helper()
	n, e := matrix.Rank(m)
	if e != api.OK {
		t.Fatal("P5.3: Rank of", m, e)
	}
	return n
}

// ranked is a matrix of any rank.
func ranked(r *rand.Rand, rows, cols int) [][]uint8 {
	m, _ := echelon(r, r.Intn(min(rows, cols)+1), cols)
	return mixed(r, m, rows, cols)
}

func TestProductIsAssociative(t *testing.T) {
	r := rand.New(rand.NewSource(7))
	for range 500 {
		var n [4]int
		for i := range n {
			n[i] = 1 + size(r)%48
		}
		for i := 1 + r.Intn(12); i < len(n); i++ { // what follows a matrix without columns has no rows, and so no columns
			n[i] = 0
		}
		a, b, c := noises(r, n[0], n[1]), noises(r, n[1], n[2]), noises(r, n[2], n[3])
		if !same(product(t, product(t, a, b), c), product(t, a, product(t, b, c))) {
			t.Fatal("P5.7: Product is not associative:", a, b, c)
		}
	}
}

func TestProductOfTransposes(t *testing.T) {
	r := rand.New(rand.NewSource(8))
	for range 500 {
		rows, inner, cols := max(1, size(r)), max(1, size(r)), max(1, size(r))
		a, b := noises(r, rows, inner), noises(r, inner, cols)
		if !same(transposed(t, product(t, a, b)), product(t, transposed(t, b), transposed(t, a))) {
			t.Fatal("P5.7: the transpose of the product of", a, b)
		}
		if !same(transposed(t, transposed(t, a)), a) {
			t.Fatal("P5.2: the transpose of the transpose of", a)
		}
		if !same(product(t, identity(rows), a), a) || !same(product(t, a, identity(inner)), a) {
			t.Fatal("P5.2: the products of the identity matrices and", a)
		}
	}
}

func TestRanks(t *testing.T) {
	r := rand.New(rand.NewSource(9))
	for range 1000 {
		rows, inner, cols := max(1, size(r)), max(1, size(r)), max(1, size(r))
		a, b := ranked(r, rows, inner), ranked(r, inner, cols)
		n, m := rank(t, a), rank(t, b)
		if n != rank(t, transposed(t, a)) {
			t.Fatal("P5.7: the rank of the transpose of", a)
		}
		if k := rank(t, product(t, a, b)); k > n || k > m {
			t.Fatal("P5.7: the rank of the product of", a, b, "is greater than that of a factor:", k, n, m)
		}
	}
	for _, m := range [][][]uint8{nil, {{}}, {{}, {}}} {
		if rank(t, m) != 0 || rank(t, transposed(t, m)) != 0 {
			t.Error("P5.7: the rank of a matrix without elements")
		}
	}
}

// TestSolutions tries all values of two unknowns: those that solve a system have to be the ones that the result of Solve describes.
func TestSolutions(t *testing.T) {
	for k := range 4096 {
		v := six(k)
		if k%13 > 0 && k > 300 {
			continue
		}
		m, b := [][]uint8{v[:2], v[2:4]}, v[4:]
		if k%3 == 0 {
			m, b = m[:1], b[:1]
		}
		x, kernel, e := matrix.Solve(m, b)
		described := [1 << 16]bool{}
		if e == api.OK {
			described = sums(x, kernel)
		}
		for n := range 1 << 16 {
			if y := []uint8{uint8(n), uint8(n >> 8)}; solves(m, b, y) != described[n] {
				t.Fatal("P5.8: Solve of", m, b, x, kernel, e, "and what solves it:", y, !described[n])
			}
		}
		if free := 2 - rank(t, m); e == api.OK && (len(kernel) != free || rank(t, kernel) != free) {
			t.Fatal("P5.8: the kernel of", m, kernel)
		}
	}
}

// sums says which pairs of elements are x plus a linear combination of at most two rows.
func sums(x []uint8, rows [][]uint8) [1 << 16]bool {
	var is [1 << 16]bool
	limits := [2]int{1, 1}
	for k := range rows {
		limits[k] = 256
	}
	for c := range limits[0] {
		for d := range limits[1] {
			y := combined(2, []uint8{1, uint8(c), uint8(d)}, append([][]uint8{x}, rows...))
			is[int(y[0])|int(y[1])<<8] = true
		}
	}
	return is
}

// TestSolutionsOfProducts solves systems whose right sides are made from a list y: y plus x has to be a linear combination of the rows of the kernel.
func TestSolutionsOfProducts(t *testing.T) {
	r := rand.New(rand.NewSource(10))
	for range 1000 {
		rows, cols := max(1, size(r)), max(1, size(r))
		m, y := ranked(r, rows, cols), noise(r, cols)
		b := combined(rows, y, flipped(m, cols))
		x, kernel, e := matrix.Solve(m, b)
		if e != api.OK || !solves(m, b, x) {
			t.Fatal("P5.8: Solve of", m, b, x, e, "which is solved by", y)
		}
		_, pivots, _ := matrix.Reduce(m)
		if len(kernel) != cols-len(pivots) || rank(t, kernel) != len(kernel) {
			t.Fatal("P5.8: so many rows of the kernel, columns and pivots:", len(kernel), cols, len(pivots))
		}
		rest, i := combined(cols, []uint8{1, 1}, [][]uint8{x, y}), 0
		for free := range cols {
			if slices.Contains(pivots, free) {
				continue
			}
			rest = combined(cols, []uint8{1, rest[free]}, [][]uint8{rest, kernel[i]})
			i++
		}
		if slices.Max(rest) != 0 {
			t.Fatal("P5.8: Solve of", m, b, x, kernel, "does not describe the solution", y)
		}
	}
}

// inverted reports whether a square matrix has an inverse, after P5.9 was checked.
func inverted(t *testing.T, m [][]uint8) bool {
	t.Helper()
	p, e := matrix.Inverse(m)
	if (e == api.OK) != (rank(t, m) == len(m)) || e != api.OK && e != api.ErrNone {
		t.Fatal("P5.9: Inverse and Rank of", m, p, e, rank(t, m))
	}
	if e == api.OK && (len(p) != len(m) || !same(wantProduct(m, p, len(m)), identity(len(m)))) {
		t.Fatal("P5.5: Inverse of", m, p)
	}
	return e == api.OK
}

func TestInverseAndRank(t *testing.T) {
	elements := []uint8{0, 1, 2, 3, 142, 255}
	for k := range 6 * 6 * 6 * 6 {
		a, b, c, d := elements[k%6], elements[k/6%6], elements[k/36%6], elements[k/216]
		if inverted(t, [][]uint8{{a, b}, {c, d}}) != (wantMul(a, d) != wantMul(b, c)) {
			t.Fatal("P5.9: a matrix and its determinant:", a, b, c, d)
		}
	}
	for k := range 19683 {
		m := zeros(3, 3)
		for i, n := 0, k; i < 9; i, n = i+1, n/3 {
			m[i/3][i%3] = uint8(n % 3)
		}
		inverted(t, m)
	}
	r := rand.New(rand.NewSource(11))
	for range 500 {
		n := size(r)
		inverted(t, ranked(r, n, n))
		inverted(t, noises(r, n, n))
	}
}

func TestExpressAndRank(t *testing.T) {
	r := rand.New(rand.NewSource(12))
	with, without := 0, 0
	for range 2000 {
		n, cols := size(r)%api.MaxRows, size(r)
		rows := ranked(r, n, cols)
		row := noise(r, cols)
		if r.Intn(2) == 0 {
			row = combined(cols, noise(r, n), rows)
		}
		c, e := matrix.Express(rows, row)
		before, after := rank(t, rows), rank(t, append(slices.Clone(rows), row))
		if (e == api.OK) != (before == after) || e != api.OK && e != api.ErrNone {
			t.Fatal("P5.10: Express of", rows, row, c, e, "and the ranks", before, after)
		}
		if e != api.OK {
			without++
			continue
		}
		with++
		if len(c) != n || !slices.Equal(combined(cols, c, rows), row) {
			t.Fatal("P5.6: Express of", rows, row, c)
		}
		for k := range rows {
			if c[k] != 0 && rank(t, rows[:k]) == rank(t, rows[:k+1]) {
				t.Fatal("P5.6: a coefficient of a row that is a combination of those before:", rows, row, c, k)
			}
		}
	}
	if with < 100 || without < 100 {
		t.Error("too few cases:", with, without)
	}
}

// call is a function of the package, called with a matrix and a row; its results are gathered as rows.
type call struct {
	name string
	of   func(m [][]uint8, v []uint8) [][]uint8
}

// calls are all functions of the package.
func calls() []call {
	return []call{
		{"Product", func(m [][]uint8, v []uint8) [][]uint8 { p, _ := matrix.Product(m, m); return p }},
		{"Product with the identity matrix", func(m [][]uint8, v []uint8) [][]uint8 { p, _ := matrix.Product(identity(len(m)), m); return p }},
		{"Transpose", func(m [][]uint8, v []uint8) [][]uint8 { p, _ := matrix.Transpose(m); return p }},
		{"Reduce", func(m [][]uint8, v []uint8) [][]uint8 { p, _, _ := matrix.Reduce(m); return p }},
		{"Solve", func(m [][]uint8, v []uint8) [][]uint8 { x, k, _ := matrix.Solve(m, v); return append(k, x) }},
		{"Inverse", func(m [][]uint8, v []uint8) [][]uint8 { p, _ := matrix.Inverse(m); return p }},
		{"Express", func(m [][]uint8, v []uint8) [][]uint8 { c, _ := matrix.Express(m, v); return [][]uint8{c} }},
		{"Check and Rank", func(m [][]uint8, v []uint8) [][]uint8 { matrix.Check(m); matrix.Rank(m); return nil }},
	}
}

// TestMemory checks that arguments are not modified, that results are new memory, and that rows of a result share none.
func TestMemory(t *testing.T) {
	for _, m := range [][][]uint8{
		identity(1), identity(4), {{1, 2, 3}, {4, 5, 6}, {7, 8, 9}}, {{0, 0, 2}, {0, 3, 0}, {4, 0, 0}}, {{1, 0, 5}, {0, 1, 6}, {0, 0, 0}}, zeros(3, 3), {{0, 1, 1}, {0, 1, 1}, {0, 1, 1}}, {{5}},
	} {
		for _, f := range calls() {
			a, v := cloned(m), slices.Clone(m[0])
			if f.name == "Solve" {
				v = make([]uint8, len(m))
				for i, row := range m {
					v[i] = row[len(row)-1]
				}
			}
			oldV := slices.Clone(v)
			result := f.of(a, v)
			if !same(a, m) || !slices.Equal(v, oldV) {
				t.Error("DOC.md, Memory: an argument was modified:", f.name, m)
			}
			want := cloned(result)
			for i := range a {
				overwrite(a[i])
			}
			overwrite(v)
			clear(a)
			if !same(result, want) {
				t.Error("chapter 5: a result shares memory with an argument:", f.name, m)
			}
			for i := range result {
				overwrite(result[i])
				if !same(result[i+1:], want[i+1:]) {
					t.Error("chapter 5: rows of a result share memory:", f.name, m, i)
				}
			}
			if !same(f.of(cloned(m), oldV), want) {
				t.Error("chapter 5: a function is not pure:", f.name, m)
			}
		}
	}
}

// overwrite changes all memory of a row, whether it is in use or not.
func overwrite(row []uint8) {
	row = row[:cap(row)]
	copy(row, bytes.Repeat([]byte{0xee}, len(row)))
}

// TestAnyArguments calls all functions with lists of any lengths: none of them panics.
func TestAnyArguments(t *testing.T) {
	r := rand.New(rand.NewSource(13))
	for range 20000 {
		a, b := make([][]uint8, r.Intn(5)), make([][]uint8, r.Intn(5))
		for _, m := range [][][]uint8{a, b} {
			n := r.Intn(4)
			for i := range m {
				m[i] = noise(r, max(0, n-r.Intn(10)/9))
			}
		}
		e, f := matrix.Check(a), matrix.Check(b)
		if p, g := matrix.Product(a, b); g == api.OK && (e != api.OK || f != api.OK) || g != api.OK && len(p) > 0 {
			t.Fatal("P1: Product of", a, b, p, g)
		}
		for _, c := range calls() {
			v := noise(r, r.Intn(6))
			for _, row := range c.of(a, v) {
				if e != api.OK && len(row) > 0 {
					t.Fatal("P1:", c.name, a, v, "has the error", e, "and a result:", row)
				}
			}
		}
	}
}
