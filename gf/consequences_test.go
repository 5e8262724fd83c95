package gf

import (
	"math/rand"
	"testing"

	"quietus/api"
)

// combined is Combine of arguments that are valid.
func combined(t *testing.T, coef []uint8, parts []string) string {
	t.Helper()
	s, e := Combine(coef, parts)
	if e != api.OK {
		t.Fatal("P4.4: Combine of so many coefficients and parts:", len(coef), len(parts), e)
	}
	return s
}

func TestField(t *testing.T) {
	for i := range 256 {
		a := uint8(i)
		if Mul(a, 1) != a || Mul(1, a) != a || Mul(a, 0) != 0 || Mul(0, a) != 0 {
			t.Fatal("P4.5: 1 and 0, times", a)
		}
		inverses := 0
		for j := range 256 {
			b := uint8(j)
			if Mul(a, b) != Mul(b, a) {
				t.Fatal("P4.5: Mul is not commutative:", a, b)
			}
			if a != 0 && b != 0 && Mul(a, b) == 0 {
				t.Fatal("P4.5: a product is 0:", a, b)
			}
			if Mul(a, b) == 1 {
				inverses++
			}
		}
		if (inverses == 1) != (a != 0) || inverses > 1 {
			t.Fatal("P4.5: inverses of", a, inverses)
		}
	}
}

func TestFieldTriples(t *testing.T) {
	for i := range 256 {
		for j := range 256 {
			a, b := uint8(i), uint8(j)
			ab := Mul(a, b)
			for k := range 256 {
				c := uint8(k)
				if Mul(ab, c) != Mul(a, Mul(b, c)) {
					t.Fatal("P4.5: Mul is not associative:", a, b, c)
				}
				if Mul(a, b^c) != ab^Mul(a, c) {
					t.Fatal("P4.5: the product does not distribute over the sum:", a, b, c)
				}
			}
		}
	}
}

func TestSumIsGroup(t *testing.T) {
	r := rand.New(rand.NewSource(5))
	for range 2000 {
		a, b, c := noise(r, r.Intn(20)), noise(r, r.Intn(20)), noise(r, r.Intn(20))
		if Sum(a, b) != Sum(b, a) || Sum(Sum(a, b), c) != Sum(a, Sum(b, c)) || Sum(a, "") != a || Sum(a, a) != string(make([]byte, len(a))) {
			t.Fatalf("P4.5: sums of %q, %q, %q", a, b, c)
		}
		x, y := uint8(r.Intn(256)), uint8(r.Intn(256))
		if Scale(x, Sum(a, b)) != Sum(Scale(x, a), Scale(x, b)) || Scale(x^y, a) != Sum(Scale(x, a), Scale(y, a)) || Scale(x, Scale(y, a)) != Scale(Mul(x, y), a) {
			t.Fatalf("P4.5: multiples of %q and %q: %d %d", a, b, x, y)
		}
	}
}

func TestExpIsOneToOne(t *testing.T) {
	var seen [256]bool
	for n := range 255 {
		p := Exp(n)
		if p == 0 || seen[p] {
			t.Fatal("P4.6: Exp of", n, "is 0, or that of a number before:", p)
		}
		seen[p] = true
		if m, e := Log(p); m != n || e != api.OK {
			t.Fatal("P4.6: Log of Exp of", n, m, e)
		}
	}
}

func TestExpTakesSumsToProducts(t *testing.T) {
	for m := -520; m <= 520; m++ {
		for n := -520; n <= 520; n++ {
			if Exp(m+n) != Mul(Exp(m), Exp(n)) {
				t.Fatal("P4.6:", m, n)
			}
		}
	}
	for i := 1; i < 256; i++ {
		for j := 1; j < 256; j++ {
			x, _ := Log(uint8(i))
			y, _ := Log(uint8(j))
			if z, e := Log(Mul(uint8(i), uint8(j))); e != api.OK || z != (x+y)%255 {
				t.Fatal("P4.6: Log of the product of", i, j)
			}
		}
	}
}

// TestCombineIsLinear compares combinations with sums, or multiples, of their coefficients, and of their parts.
func TestCombineIsLinear(t *testing.T) {
	r := rand.New(rand.NewSource(6))
	for range 1000 {
		many, n := 1+r.Intn(10), r.Intn(20)
		c, d, x := noise(r, many), noise(r, many), uint8(r.Intn(256))
		p, q := noises(r, many, n), noises(r, many, n)
		var sums, scaled []string
		for k := range many {
			sums, scaled = append(sums, Sum(p[k], q[k])), append(scaled, Scale(x, p[k]))
		}
		cp := combined(t, []uint8(c), p)
		if combined(t, []uint8(Sum(c, d)), p) != Sum(cp, combined(t, []uint8(d), p)) {
			t.Fatal("P4.7: a sum of coefficients")
		}
		if combined(t, []uint8(Scale(x, c)), p) != Scale(x, cp) {
			t.Fatal("P4.7: a multiple of coefficients")
		}
		if combined(t, []uint8(c), sums) != Sum(cp, combined(t, []uint8(c), q)) {
			t.Fatal("P4.7: a sum of parts")
		}
		if combined(t, []uint8(c), scaled) != Scale(x, cp) {
			t.Fatal("P4.7: a multiple of parts")
		}
	}
}

// TestUnits combines parts of which one coefficient alone is 1.
func TestUnits(t *testing.T) {
	r := rand.New(rand.NewSource(7))
	parts := noises(r, 24, 50)
	for k, part := range parts {
		coef := make([]uint8, len(parts))
		coef[k] = 1
		if combined(t, coef, parts) != part {
			t.Error("P4.7: the part", k)
		}
	}
}
