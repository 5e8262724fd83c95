package poly_test

import (
	"bytes"
	"math"
	"math/rand"
	"slices"
	"testing"

	"quietus/api"
	"quietus/poly"
)

// TestValues checks the values of sums, products, quotients and remainders at all places.
func TestValues(t *testing.T) {
	r := rand.New(rand.NewSource(9))
	for i := range 600 {
		a, b := noise(r, size(r)), noise(r, size(r))
		if i == 0 {
			a, b = exact(r, 255), exact(r, 255)
		}
		sum := poly.Add(a, b)
		product, e := poly.Mul(a, b)
		if e != api.OK {
			t.Fatal("P6.2: Mul of", a, b, e)
		}
		q, rest, f := poly.DivMod(a, b)
		for x := range 256 {
			y, z := poly.Eval(a, uint8(x)), poly.Eval(b, uint8(x))
			if poly.Eval(sum, uint8(x)) != y^z {
				t.Fatal("P6.7: the value of the sum of", a, b, "at", x)
			}
			if poly.Eval(product, uint8(x)) != wantMul(y, z) {
				t.Fatal("P6.7: the value of the product of", a, b, "at", x)
			}
			if f == api.OK && wantMul(poly.Eval(q, uint8(x)), z)^poly.Eval(rest, uint8(x)) != y {
				t.Fatal("P6.7: the value of the quotient and the remainder of", a, b, "at", x)
			}
		}
	}
}

func TestDegrees(t *testing.T) {
	r := rand.New(rand.NewSource(10))
	for n := range 256 {
		for _, m := range []int{0, 1, 2, r.Intn(256), 255 - n, 255} {
			p, e := poly.Mul(append(exact(r, n), zeros(r.Intn(256-n))...), append(exact(r, m), zeros(r.Intn(256-m))...))
			if e != api.OK || poly.Degree(p) != n+m {
				t.Fatal("P6.7: the degrees of two polynomials and of the product:", n, m, poly.Degree(p), e)
			}
		}
		for _, zero := range [][]uint8{nil, {0}, zeros(256)} {
			p, e := poly.Mul(zero, exact(r, n))
			q, f := poly.Mul(exact(r, n), zero)
			if len(p) > 0 || len(q) > 0 || e != api.OK || f != api.OK {
				t.Fatal("P6.2: the product of zero and one of the degree", n, p, q, e, f)
			}
		}
	}
}

// TestFoundAgain takes polynomials of all degrees, and as many of their values as they have coefficients, or more.
func TestFoundAgain(t *testing.T) {
	r := rand.New(rand.NewSource(11))
	for degree := -1; degree < 256; degree++ {
		p := exact(r, degree)
		for _, more := range []int{0, r.Intn(4)} {
			xs := places(r, min(256, max(1, degree+1)+more))
			ys := values(p, xs)
			q, e := poly.Interpolate(xs, ys)
			if !slices.Equal(q, p) || e != api.OK {
				t.Fatal("P6.8: Interpolate of values of", p, "at", xs, q, e)
			}
			most := len(xs) - 1
			if q, e := poly.Through(xs, ys, most-r.Intn(most-max(0, degree)+1)); !slices.Equal(q, p) || e != api.OK {
				t.Fatal("P6.8: Through values of", p, "at", xs, q, e)
			}
			if q, at, e := poly.Decode(xs, ys, max(0, degree), 0); !slices.Equal(q, p) || len(at) > 0 || e != api.OK {
				t.Fatal("P6.8: Decode of values of", p, "at", xs, q, at, e)
			}
		}
	}
	for degree := range 7 {
		p := exact(r, degree)
		xs := places(r, 9)
		for _, some := range subsets(9, degree+1) {
			var x []uint8
			for _, i := range some {
				x = append(x, xs[i])
			}
			if q, e := poly.Interpolate(x, values(p, x)); !slices.Equal(q, p) || e != api.OK {
				t.Fatal("P6.8: Interpolate of values of", p, "at", x, q, e)
			}
		}
	}
}

// TestAgreement counts the places at which two polynomials of at most a degree agree: there are not more than the degree, and as many where their difference is made so.
func TestAgreement(t *testing.T) {
	r := rand.New(rand.NewSource(12))
	for i := range 2000 {
		degree := r.Intn(30)
		if i < 256 {
			degree = i
		}
		a, d := noise(r, degree+1), []uint8{uint8(1 + r.Intn(255))}
		for _, x := range places(r, degree) {
			d = wantProduct(d, []uint8{x, 1})
		}
		b := poly.Add(a, d)
		if i%3 == 0 {
			b = poly.Trim(noise(r, degree+1))
		}
		agree := 0
		for x := range 256 {
			if poly.Eval(a, uint8(x)) == poly.Eval(b, uint8(x)) {
				agree++
			}
		}
		if agree > degree && !slices.Equal(poly.Trim(a), b) || i%3 > 0 && agree != degree {
			t.Fatal("P6.8: two polynomials of at most the degree", degree, "agree at so many places:", agree, a, b)
		}
	}
}

// decodes checks that Decode finds a polynomial of at most a degree, when as many of its values as are given are replaced.
func decodes(t *testing.T, r *rand.Rand, points, degree, wrong, replaced int) {
	t.Helper()
	p, xs := exact(r, r.Intn(degree+2)-1), places(r, points)
	ys, at := spoilt(r, values(p, xs), replaced)
	q, found, e := poly.Decode(xs, ys, degree, wrong)
	if !slices.Equal(q, p) || !slices.Equal(found, at) || e != api.OK {
		t.Fatalf("P6.9: Decode of %d points, degree %d, %d wrong, of which %d are replaced, %d: %d %d %d, not %d", points, degree, wrong, replaced, at, q, found, e, p)
	}
}

func TestReplaced(t *testing.T) {
	r := rand.New(rand.NewSource(13))
	for degree := range 9 {
		for wrong := range 7 {
			for more := range 6 {
				for replaced := range wrong + 1 {
					for range 3 {
						decodes(t, r, degree+1+2*wrong+more, degree, wrong, replaced)
					}
				}
			}
		}
	}
	for degree := 0; degree < 256; degree += 5 {
		most := (255 - degree) / 2
		decodes(t, r, 256, degree, most, most)
		decodes(t, r, degree+1+2*most, degree, most, most)
		decodes(t, r, 256, degree, most, r.Intn(most+1))
		half := r.Intn(most + 1)
		decodes(t, r, 256, degree, half, half)
		decodes(t, r, degree+1+2*half, degree, half, half)
	}
	for _, x := range [][2]int{{0, 127}, {1, 127}, {253, 1}, {254, 0}, {255, 0}} {
		decodes(t, r, 256, x[0], x[1], x[1])
	}
}

// TestReplacedEverywhere replaces two of seven values, at all pairs of places, and by the same error or by another one.
func TestReplacedEverywhere(t *testing.T) {
	r := rand.New(rand.NewSource(14))
	xs := []uint8{0, 1, 2, 255, 128, 77, 3}
	for _, p := range [][]uint8{nil, {9}, {0, 0, 1}, {1, 2, 3}, {0, 255}, {7, 0, 200}} {
		right := values(p, xs)
		for _, at := range subsets(len(xs), 2) {
			for _, d := range [][2]uint8{{1, 1}, {255, 255}, {1, 2}, {128, 7}, {uint8(1 + r.Intn(255)), uint8(1 + r.Intn(255))}} {
				ys := slices.Clone(right)
				ys[at[0]] ^= d[0]
				ys[at[1]] ^= d[1]
				if q, found, e := poly.Decode(xs, ys, 2, 2); !slices.Equal(q, p) || !slices.Equal(found, at) || e != api.OK {
					t.Fatal("P6.9: Decode of", xs, ys, q, found, e, "and not", p, at)
				}
				if q, found, e := poly.Decode(xs, ys, 2, 1); len(q) > 0 || len(found) > 0 || e != api.ErrLost {
					t.Fatal("P6.9: Decode of two wrong points, where one may be:", xs, ys, q, found, e)
				}
			}
		}
	}
}

// TestLost tries all polynomials of at most the degree 1 wherever Decode returns none: each of them misses more points.
func TestLost(t *testing.T) {
	r := rand.New(rand.NewSource(15))
	lost := 0
	for range 600 {
		n := 2 + r.Intn(6)
		wrong := r.Intn((n-2)/2 + 1)
		xs := places(r, n)
		ys, _ := spoilt(r, values(noise(r, 2), xs), r.Intn(wrong+3)%(n+1))
		p, at, e := poly.Decode(xs, ys, 1, wrong)
		if e == api.OK {
			if len(at) > wrong || len(p) > 2 || !slices.Equal(at, missed(p, xs, ys)) {
				t.Fatal("P6.9: Decode of", xs, ys, 1, wrong, p, at)
			}
			continue
		}
		lost++
		if len(p) > 0 || len(at) > 0 || e != api.ErrLost {
			t.Fatal("P6.6: Decode of", xs, ys, 1, wrong, p, at, e)
		}
		if line, found := lineThrough(xs, ys, wrong); found {
			t.Fatal("P6.9: Decode of", xs, ys, 1, wrong, e, "where this fits:", line)
		}
	}
	if lost < 100 {
		t.Error("too few cases:", lost)
	}
}

// lineThrough searches a polynomial of at most the degree 1 that misses at most so many points.
func lineThrough(xs, ys []uint8, wrong int) ([]uint8, bool) {
	for slope := range 256 {
		hits := [256]int{} // for each constant coefficient, how many points are not missed
		for i, x := range xs {
			constant := ys[i] ^ wantMul(uint8(slope), x)
			hits[constant]++
			if hits[constant] >= len(xs)-wrong {
				return []uint8{constant, uint8(slope)}, true
			}
		}
	}
	return nil, false
}

// TestTooMuchReplaced replaces more values than may be wrong: what is returned misses at most so many points, and there is no result where the polynomial is the only one that is near.
func TestTooMuchReplaced(t *testing.T) {
	r := rand.New(rand.NewSource(16))
	for range 3000 {
		degree, most := r.Intn(10), 1+r.Intn(12)
		xs, p := places(r, degree+1+2*most+r.Intn(2)), noise(r, degree+1)
		ys, _ := spoilt(r, values(p, xs), most)
		wrong := r.Intn(most)
		if q, at, e := poly.Decode(xs, ys, degree, wrong); len(q) > 0 || len(at) > 0 || e != api.ErrLost {
			t.Fatal("P6.9: Decode of", xs, ys, degree, wrong, q, at, e, "where", most, "points are wrong")
		}
		ys, _ = spoilt(r, ys, r.Intn(len(ys)+1))
		q, at, e := poly.Decode(xs, ys, degree, most)
		if e == api.OK && (len(q) > degree+1 || len(at) > most || !slices.Equal(at, missed(q, xs, ys))) || e != api.OK && (len(q) > 0 || len(at) > 0 || e != api.ErrLost) {
			t.Fatal("P6.9: Decode of", xs, ys, degree, most, q, at, e)
		}
	}
	xs, ys := everywhere(), zeros(256)
	r.Read(ys)
	for _, degree := range []int{0, 1, 2, 100, 200, 254} {
		if p, at, e := poly.Decode(xs, ys, degree, (255-degree)/2); len(p) > 0 || len(at) > 0 || e != api.ErrLost {
			t.Error("P6.9: Decode of 256 random values:", degree, p, at, e)
		}
	}
}

// call is a function of the package, called with two lists; those of its results that are polynomials are gathered.
type call struct {
	name string
	of   func(a, b []uint8) [][]uint8
}

// calls are all functions of the package.
func calls() []call {
	return []call{
		{"Trim", func(a, b []uint8) [][]uint8 { return [][]uint8{poly.Trim(a), poly.Trim(b)} }},
		{"Add", func(a, b []uint8) [][]uint8 { return [][]uint8{poly.Add(a, b), poly.Add(a, nil), poly.Add(nil, b)} }},
		{"Mul", func(a, b []uint8) [][]uint8 { p, _ := poly.Mul(a, b); return [][]uint8{p} }},
		{"Mul by 1", func(a, b []uint8) [][]uint8 { p, _ := poly.Mul(a, []uint8{1}); return [][]uint8{p} }},
		{"DivMod", func(a, b []uint8) [][]uint8 { q, r, _ := poly.DivMod(a, b); return [][]uint8{q, r} }},
		{"DivMod by 1", func(a, b []uint8) [][]uint8 { q, r, _ := poly.DivMod(a, []uint8{1}); return [][]uint8{q, r} }},
		{"Interpolate", func(a, b []uint8) [][]uint8 { p, _ := poly.Interpolate(a, b); return [][]uint8{p} }},
		{"Through", func(a, b []uint8) [][]uint8 { p, _ := poly.Through(a, b, len(a)-1); return [][]uint8{p} }},
		{"Decode", func(a, b []uint8) [][]uint8 { p, _, _ := poly.Decode(a, b, 0, (len(a)-1)/2); return [][]uint8{p} }},
		{"Decode, nothing wrong", func(a, b []uint8) [][]uint8 { p, _, _ := poly.Decode(a, b, len(a)-1, 0); return [][]uint8{p} }},
		{"Eval and Degree", func(a, b []uint8) [][]uint8 { poly.Eval(a, 7); poly.Degree(b); return nil }},
	}
}

// TestMemory checks that arguments are not modified, and that results are new memory and share none with one another.
func TestMemory(t *testing.T) {
	for _, x := range [][2][]uint8{
		{{1, 2, 3}, {1, 0, 9}}, {{1, 2, 3}, {7, 7, 8}}, {{0, 1, 2, 3}, {0, 5, 0, 0}}, {{5, 0}, {5, 0}}, {{0}, {0}}, {{9}, {1}}, {{1, 2, 0}, {1, 0, 0}}, {{4, 5, 6, 7, 8, 9, 10, 11, 12}, {3, 3, 3, 3, 3, 9, 3, 1, 3}}, {{0, 0, 0}, {0, 0, 0}}, {nil, nil}, {{}, {}}, {{1, 0, 1}, {1, 1}}, {{1, 1}, {0, 0, 1}}, {everywhere(), everywhere()},
	} {
		for _, f := range calls() {
			a, b := append(make([]uint8, 0, 600), x[0]...), append(make([]uint8, 0, 600), x[1]...)
			result := f.of(a, b)
			if !slices.Equal(a, x[0]) || !slices.Equal(b, x[1]) || slices.Max(append(a[len(a):600], b[len(b):600]...)) > 0 {
				t.Error("DOC.md, Memory: an argument was modified:", f.name, x)
			}
			want := cloned(result)
			overwrite(a, 0xee)
			overwrite(b, 0xee)
			if !same(result, want) {
				t.Error("chapter 6: a result shares memory with an argument:", f.name, x)
			}
			for i := range result {
				overwrite(result[i], 0xdd)
				if !same(result[i+1:], want[i+1:]) || bytes.Contains(a[:600], []byte{0xdd}) || bytes.Contains(b[:600], []byte{0xdd}) {
					t.Error("chapter 6: results share memory:", f.name, x, i)
				}
			}
			if !same(f.of(x[0], x[1]), want) {
				t.Error("chapter 6: a function is not pure:", f.name, x)
			}
		}
	}
}

// overwrite changes all memory of a list, whether it is in use or not.
func overwrite(p []uint8, by uint8) {
	p = p[:cap(p)]
	for k := range p {
		p[k] = by
	}
}

// cloned are lists in new memory.
func cloned(list [][]uint8) [][]uint8 {
	var c [][]uint8
	for _, p := range list {
		c = append(c, slices.Clone(p))
	}
	return c
}

// same says whether lists are equal; empty ones are, nil or not.
func same(a, b [][]uint8) bool { return slices.EqualFunc(a, b, slices.Equal[[]uint8]) }

// TestAnyArguments calls all functions with any lists and numbers: none of them panics, and there is no result together with an error.
func TestAnyArguments(t *testing.T) {
	r := rand.New(rand.NewSource(17))
	numbers := []int{math.MinInt, math.MinInt + 1, -7, -1, 0, 0, 1, 1, 2, 2, 3, 4, 5, 6, 255, 256, math.MaxInt/2 + 1, math.MaxInt - 1, math.MaxInt}
	for range 100000 {
		a, b := noise(r, r.Intn(8)), noise(r, r.Intn(8))
		if r.Intn(3) > 0 {
			a = places(r, len(b))
		}
		for _, f := range calls() {
			f.of(a, b)
		}
		degree, wrong := numbers[r.Intn(len(numbers))], numbers[r.Intn(len(numbers))]
		if p, e := poly.Through(a, b, degree); e != api.OK && len(p) > 0 {
			t.Fatal("P1: Through", a, b, degree, p, e)
		}
		if p, at, e := poly.Decode(a, b, degree, wrong); e != api.OK && (len(p) > 0 || len(at) > 0) {
			t.Fatal("P1: Decode of", a, b, degree, wrong, p, at, e)
		}
	}
}
