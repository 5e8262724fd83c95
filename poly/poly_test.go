package poly_test

import (
	"math/rand"
	"slices"
	"testing"

	"quietus/api"
	"quietus/poly"
)

func TestEval(t *testing.T) {
	for _, x := range []struct {
		p    []uint8
		x, y uint8
	}{
		{[]uint8{1, 2, 3}, 2, 9}, {[]uint8{1, 2, 3}, 0, 1}, {nil, 0, 0}, {nil, 7, 0}, {[]uint8{}, 255, 0}, {[]uint8{5}, 0, 5}, {[]uint8{5}, 9, 5}, {[]uint8{0, 1}, 0, 0}, {[]uint8{0, 1}, 77, 77}, {[]uint8{0, 0, 1}, 3, 5}, {[]uint8{0, 128}, 2, 29}, {[]uint8{1, 1, 1, 1}, 1, 0}, {[]uint8{1, 1, 1}, 1, 1}, {[]uint8{4, 0, 0}, 8, 4}, {[]uint8{255, 1}, 255, 0},
	} {
		if y := poly.Eval(x.p, x.x); y != x.y {
			t.Errorf("P6.1: Eval of %d at %d: %d, not %d", x.p, x.x, y, x.y)
		}
	}
	r := rand.New(rand.NewSource(1))
	for n := range 600 {
		p := noise(r, n)
		for x := n % 5; x < 256; x += 5 {
			if y, want := poly.Eval(p, uint8(x)), wantEval(p, uint8(x)); y != want {
				t.Fatalf("P6.1: Eval of %d at %d: %d, not %d", p, x, y, want)
			}
		}
	}
	for k := range 300 {
		power := append(zeros(k), 1)
		for x := range 256 {
			if y, want := poly.Eval(power, uint8(x)), wantEval(power, uint8(x)); y != want {
				t.Fatalf("P6.1: %d to the power %d: %d, not %d", x, k, y, want)
			}
		}
	}
	long := noise(r, 1<<20)
	for _, x := range []uint8{0, 1, 2, 200, 255} {
		if poly.Eval(long, x) != wantEval(long, x) {
			t.Error("P6.1: Eval of a long polynomial at", x)
		}
	}
}

func TestDegreeAndTrim(t *testing.T) {
	for _, x := range []struct {
		p, trimmed []uint8
		degree     int
	}{
		{[]uint8{5, 0, 0}, []uint8{5}, 0},
		{[]uint8{0, 0}, nil, -1},
		{nil, nil, -1},
		{[]uint8{}, nil, -1},
		{[]uint8{0}, nil, -1},
		{[]uint8{1}, []uint8{1}, 0},
		{[]uint8{255}, []uint8{255}, 0},
		{[]uint8{0, 1}, []uint8{0, 1}, 1},
		{[]uint8{0, 128, 0}, []uint8{0, 128}, 1},
		{[]uint8{1, 0, 0, 7}, []uint8{1, 0, 0, 7}, 3},
		{[]uint8{0, 0, 3, 0, 0, 0, 4, 0}, []uint8{0, 0, 3, 0, 0, 0, 4}, 6},
		{zeros(300), nil, -1},
		{append(zeros(300), 2), append(zeros(300), 2), 300},
		{append([]uint8{2}, zeros(300)...), []uint8{2}, 0},
		{append(zeros(1<<20), 1, 0), append(zeros(1<<20), 1), 1 << 20},
		{zeros(1 << 20), nil, -1},
	} {
		if n, p := poly.Degree(x.p), poly.Trim(x.p); n != x.degree || !slices.Equal(p, x.trimmed) {
			t.Errorf("P6.1: Degree and Trim of %d elements that begin with %d: %d and %d elements", len(x.p), x.p[:min(len(x.p), 9)], n, len(p))
		}
	}
	r := rand.New(rand.NewSource(2))
	for n := range 600 {
		for range 5 {
			p := noise(r, n)
			if d, q := poly.Degree(p), poly.Trim(p); d != wantDegree(p) || !slices.Equal(q, wantTrim(p)) {
				t.Fatal("P6.1: Degree and Trim of", p, d, q)
			}
		}
	}
}

func TestAdd(t *testing.T) {
	for _, x := range [][3][]uint8{
		{nil, nil, nil}, {{}, nil, nil}, {{0}, {0, 0}, nil}, {{1}, nil, {1}}, {nil, {1}, {1}}, {{1, 0}, nil, {1}}, {nil, {1, 0}, {1}}, {{1, 2, 3}, {4}, {5, 2, 3}}, {{4}, {1, 2, 3}, {5, 2, 3}}, {{1, 2, 3}, {1, 2, 3}, nil}, {{1, 2, 3}, {0, 2, 3}, {1}}, {{1, 2, 3}, {1, 0, 3}, {0, 2}}, {{1, 2, 3}, {1, 2, 0}, {0, 0, 3}}, {{7, 7}, {0, 0, 0, 0}, {7, 7}}, {{0, 0, 0, 0}, {7, 7}, {7, 7}}, {{255}, {1}, {254}},
	} {
		if p := poly.Add(x[0], x[1]); !slices.Equal(p, x[2]) {
			t.Errorf("P6.1: Add of %d and %d: %d, not %d", x[0], x[1], p, x[2])
		}
	}
	r := rand.New(rand.NewSource(3))
	for range 5000 {
		a, b := noise(r, size(r)*(1+r.Intn(2))), noise(r, size(r)*(1+r.Intn(2)))
		if r.Intn(3) == 0 { // so that the last elements cancel each other
			b = append(noise(r, r.Intn(len(a)+1)), a...)[:len(a)]
			copy(b[len(a)/2:], a[len(a)/2:])
		}
		if p, want := poly.Add(a, b), wantAdd(a, b); !slices.Equal(p, want) {
			t.Fatalf("P6.1: Add of %d and %d: %d, not %d", a, b, p, want)
		}
	}
	long, longer := noise(r, 1<<18), noise(r, 1<<20)
	if !slices.Equal(poly.Add(long, longer), wantAdd(long, longer)) || !slices.Equal(poly.Add(longer, long), wantAdd(longer, long)) {
		t.Error("P6.1: Add of long polynomials")
	}
}

func TestMul(t *testing.T) {
	for _, x := range [][3][]uint8{
		{{1, 1}, {1, 1}, {1, 0, 1}}, {nil, nil, nil}, {{}, {1}, nil}, {{1}, nil, nil}, {{0}, {1, 2}, nil}, {{1, 2}, {0, 0}, nil}, {{1}, {1, 2, 3}, {1, 2, 3}}, {{1, 2, 3}, {1}, {1, 2, 3}}, {{2}, {128, 1}, {29, 2}}, {{0, 1}, {1, 2, 3}, {0, 1, 2, 3}}, {{0, 0, 1}, {0, 1}, {0, 0, 0, 1}}, {{3, 1, 0, 0}, {3, 1, 0}, {5, 0, 1}}, {{1, 2}, {3, 4}, {3, 2, 8}}, {{0, 0, 0, 5}, {142}, append(zeros(3), wantMul(5, 142))},
	} {
		if p, e := poly.Mul(x[0], x[1]); !slices.Equal(p, x[2]) || e != api.OK {
			t.Errorf("P6.2: Mul of %d and %d: %d %d, not %d", x[0], x[1], p, e, x[2])
		}
	}
	r := rand.New(rand.NewSource(4))
	for range 3000 {
		a, b := noise(r, size(r)), noise(r, size(r))
		if p, e := poly.Mul(a, b); !slices.Equal(p, wantProduct(a, b)) || e != api.OK {
			t.Fatalf("P6.2: Mul of %d and %d: %d %d, not %d", a, b, p, e, wantProduct(a, b))
		}
	}
	a, b := exact(r, 255), exact(r, 255)
	if p, e := poly.Mul(a, b); len(p) != 511 || !slices.Equal(p, wantProduct(a, b)) || e != api.OK {
		t.Error("P6.2: Mul of the longest polynomials:", len(p), e)
	}
	for x := range 256 {
		c := []uint8{uint8(x)}
		if p, e := poly.Mul(c, everywhere()); !slices.Equal(p, wantProduct(c, everywhere())) || e != api.OK {
			t.Error("P6.2: Mul of", x, "and all bytes:", e)
		}
	}
}

func TestDivModExamples(t *testing.T) {
	for _, x := range [][4][]uint8{
		{{1, 0, 1}, {1, 1}, {1, 1}, nil},
		{nil, {1}, nil, nil},
		{{0, 0, 0}, {1, 2}, nil, nil},
		{{7}, {1}, {7}, nil},
		{{7, 8, 9, 0}, {1, 0, 0}, {7, 8, 9}, nil},
		{{2, 4, 6}, {2}, {1, 2, 3}, nil},
		{{1, 2, 3}, {1, 2, 3}, {1}, nil},
		{{1, 2, 3}, {1, 2, 3, 0, 0}, {1}, nil},
		{{1, 2, 3}, {0, 0, 0, 1}, nil, {1, 2, 3}},
		{{1, 2, 3, 0, 0}, {0, 0, 0, 1}, nil, {1, 2, 3}},
		{{1, 2, 3}, {0, 1}, {2, 3}, {1}},
		{{1, 2, 3}, {0, 0, 1}, {3}, {1, 2}},
		{{9, 0, 3}, {0, 0, 1, 0}, {3}, {9}},
		{{5}, {4, 1}, nil, {5}},
		{{0, 0, 0, 0, 1}, {1, 0, 1}, {1, 0, 1}, {1}},
		{zeros(256), append(zeros(255), 9), nil, nil},
		{append(zeros(255), 9), append(zeros(255), 9), {1}, nil},
		{append(zeros(255), 1), {1, 1}, slices.Repeat([]uint8{1}, 255), {1}},
	} {
		if q, r, e := poly.DivMod(x[0], x[1]); !slices.Equal(q, x[2]) || !slices.Equal(r, x[3]) || e != api.OK {
			t.Errorf("P6.3: DivMod of %d by %d: %d, %d, %d, not %d and %d", x[0], x[1], q, r, e, x[2], x[3])
		}
	}
}

// TestDivMod divides polynomials that are made of a quotient, a divisor and a remainder.
func TestDivMod(t *testing.T) {
	random := rand.New(rand.NewSource(5))
	for range 5000 {
		degree := max(0, size(random)-1)
		b := exact(random, degree)
		q, r := noise(random, random.Intn(min(api.MaxCoefs-degree, size(random)+1)+1)), noise(random, random.Intn(degree+1))
		a := wantAdd(wantProduct(q, b), r)
		a = append(a, zeros(random.Intn(min(3, api.MaxCoefs-len(a)+1)))...)
		b = append(b, zeros(random.Intn(min(3, api.MaxCoefs-len(b)+1)))...)
		if quotient, rest, e := poly.DivMod(a, b); !slices.Equal(quotient, wantTrim(q)) || !slices.Equal(rest, wantTrim(r)) || e != api.OK {
			t.Fatalf("P6.3: DivMod of %d by %d: %d, %d, %d, not %d and %d", a, b, quotient, rest, e, q, r)
		}
	}
	for range 3000 {
		a, b := noise(random, size(random)), noise(random, size(random))
		if wantDegree(b) < 0 {
			continue
		}
		q, r, e := poly.DivMod(a, b)
		if !slices.Equal(q, wantTrim(q)) || !slices.Equal(r, wantTrim(r)) || len(r) > wantDegree(b) || !slices.Equal(wantAdd(wantProduct(q, b), r), wantTrim(a)) || e != api.OK {
			t.Fatalf("P6.3: DivMod of %d by %d: %d, %d, %d", a, b, q, r, e)
		}
	}
}

// TestLimits checks the limits of Mul and DivMod: the number of elements counts, whether they are 0 or not.
func TestLimits(t *testing.T) {
	fits := [][]uint8{nil, {0}, {1}, zeros(256), append(zeros(255), 1), slices.Repeat([]uint8{7}, 256)}
	long := [][]uint8{zeros(257), append(zeros(256), 1), append([]uint8{1}, zeros(256)...), slices.Repeat([]uint8{7}, 257), zeros(1 << 20)}
	for i, a := range append(slices.Clone(fits), long...) {
		for k, b := range append(slices.Clone(fits), long...) {
			mul, div := api.OK, api.OK
			switch {
			case i >= len(fits) || k >= len(fits):
				mul, div = api.ErrLimit, api.ErrLimit
			case wantDegree(b) < 0:
				div = api.ErrArg
			}
			if p, e := poly.Mul(a, b); e != mul || e != api.OK && len(p) > 0 {
				t.Error("P6.2: Mul of so many elements:", len(a), len(b), "has a result of", len(p), e, "not", mul)
			}
			if q, r, e := poly.DivMod(a, b); e != div || e != api.OK && (len(q) > 0 || len(r) > 0) {
				t.Error("P6.3: DivMod of so many elements:", len(a), len(b), "has results of", len(q), len(r), e, "not", div)
			}
		}
	}
	for _, x := range [][2][]uint8{{{1, 2, 3}, {0, 0}}, {{1, 2, 3}, nil}, {nil, nil}, {{0}, {0}}, {{1}, zeros(256)}, {slices.Repeat([]uint8{1}, 256), {}}} {
		if q, r, e := poly.DivMod(x[0], x[1]); len(q) > 0 || len(r) > 0 || e != api.ErrArg {
			t.Error("P6.3: DivMod of", x[0], "by", x[1], q, r, e)
		}
	}
}
