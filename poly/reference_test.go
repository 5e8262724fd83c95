package poly_test

import (
	"math/rand"
	"slices"

	"quietus/api"
)

// products has the products of all pairs of bytes: of polynomials over GF(2), modulo the polynomial 285.
var products = func() (all [256][256]uint8) {
	for a := range 256 {
		for b := range 256 {
			p := 0
			for k := range 8 {
				p ^= (b >> k & 1) * a << k
			}
			for k := 6; k >= 0; k-- {
				p ^= (p >> (k + 8) & 1) * (285 << k)
			}
			all[a][b] = uint8(p)
		}
	}
	return all
}()

// inverses has for each byte but 0 the one with which its product is 1.
var inverses = func() (all [256]uint8) {
	for a := range 256 {
		for b := range 256 {
			if products[a][b] == 1 {
				all[a] = uint8(b)
			}
		}
	}
	return all
}()

// wantMul is the product of two elements.
func wantMul(a, b uint8) uint8 { return products[a][b] }

// wantEval is the value of a polynomial: the sum of its coefficients times powers of x, the first of which is 1.
func wantEval(p []uint8, x uint8) uint8 {
	sum, power := uint8(0), uint8(1)
	for _, c := range p {
		sum ^= wantMul(c, power)
		power = wantMul(power, x)
	}
	return sum
}

// values are the values of a polynomial at several places.
func values(p, xs []uint8) []uint8 {
	var ys []uint8
	for _, x := range xs {
		ys = append(ys, wantEval(p, x))
	}
	return ys
}

// wantDegree is the greatest index of an element that is not 0.
func wantDegree(p []uint8) int {
	degree := -1
	for k, c := range p {
		if c != 0 {
			degree = k
		}
	}
	return degree
}

// wantTrim is a polynomial without the zeros at its end.
func wantTrim(p []uint8) []uint8 { return slices.Clone(p[:wantDegree(p)+1]) }

// wantAdd is the trimmed sum of two polynomials.
func wantAdd(a, b []uint8) []uint8 {
	var sum []uint8
	for k := range max(len(a), len(b)) {
		c := uint8(0)
		if k < len(a) {
			c = a[k]
		}
		if k < len(b) {
			c ^= b[k]
		}
		sum = append(sum, c)
	}
	return wantTrim(sum)
}

// wantProduct is the trimmed product of two polynomials.
func wantProduct(a, b []uint8) []uint8 {
	p := make([]uint8, len(a)+len(b))
	for i, x := range a {
		for j, y := range b {
			p[i+j] ^= wantMul(x, y)
		}
	}
	return wantTrim(p)
}

// wantInterpolate is the trimmed polynomial of the least degree through points at different places: it is 0 at first, and each point adds a product that is 0 at all points before it.
func wantInterpolate(xs, ys []uint8) []uint8 {
	p, zero := []uint8(nil), []uint8{1}
	for i, x := range xs {
		c := wantMul(ys[i]^wantEval(p, x), inverses[wantEval(zero, x)])
		p = wantAdd(p, wantProduct([]uint8{c}, zero))
		zero = wantProduct(zero, []uint8{x, 1})
	}
	return p
}

// missed are the indices of the points that a polynomial misses.
func missed(p, xs, ys []uint8) []int {
	var at []int
	for i, x := range xs {
		if wantEval(p, x) != ys[i] {
			at = append(at, i)
		}
	}
	return at
}

// fitting are all trimmed polynomials of at most a degree that miss at most so many points: each of them goes through degree + 1 of the points, or more.
func fitting(xs, ys []uint8, degree, wrong int) [][]uint8 {
	var all [][]uint8
	for _, some := range subsets(len(xs), degree+1) {
		var x, y []uint8
		for _, i := range some {
			x, y = append(x, xs[i]), append(y, ys[i])
		}
		p := wantInterpolate(x, y)
		known := slices.ContainsFunc(all, func(q []uint8) bool { return slices.Equal(p, q) })
		if !known && len(missed(p, xs, ys)) <= wrong {
			all = append(all, p)
		}
	}
	return all
}

// subsets are all sets of k of the numbers below n.
func subsets(n, k int) [][]int {
	if k == 0 {
		return [][]int{nil}
	}
	var all [][]int
	for last := k - 1; last < n; last++ {
		for _, s := range subsets(last, k-1) {
			all = append(all, append(slices.Clone(s), last))
		}
	}
	return all
}

// noise is a polynomial with n coefficients; in a third of them most are 0, and some have zeros at their end.
func noise(r *rand.Rand, n int) []uint8 {
	p := make([]uint8, n)
	r.Read(p)
	if r.Intn(3) == 0 {
		for k := range p {
			if r.Intn(4) > 0 {
				p[k] = 0
			}
		}
	}
	if r.Intn(3) == 0 {
		clear(p[r.Intn(n+1):])
	}
	return p
}

// exact is a polynomial of a degree.
func exact(r *rand.Rand, degree int) []uint8 {
	p := noise(r, degree+1)
	if degree >= 0 {
		p[degree] = uint8(1 + r.Intn(255))
	}
	return p
}

// places are n different elements.
func places(r *rand.Rand, n int) []uint8 {
	var xs []uint8
	for _, x := range r.Perm(256)[:n] {
		xs = append(xs, uint8(x))
	}
	return xs
}

// spoilt is a list of values of which so many are replaced by other ones, and their indices in ascending order.
func spoilt(r *rand.Rand, ys []uint8, many int) ([]uint8, []int) {
	bad, at := slices.Clone(ys), r.Perm(len(ys))[:many]
	for _, i := range at {
		bad[i] ^= uint8(1 + r.Intn(255))
	}
	slices.Sort(at)
	return bad, at
}

// size is a number of coefficients from 0 to the limit; mostly it is small.
func size(r *rand.Rand) int {
	switch r.Intn(20) {
	case 0:
		return api.MaxCoefs
	case 1:
		return r.Intn(api.MaxCoefs + 1)
	}
	return r.Intn(10)
}

// zeros is a polynomial of n zeros.
func zeros(n int) []uint8 { return make([]uint8, n) }

// everywhere are all elements, in ascending order.
func everywhere() []uint8 {
	xs := zeros(256)
	for x := range xs {
		xs[x] = uint8(x)
	}
	return xs
}

// wrongPoints are points that are not right.
func wrongPoints() map[string][2][]uint8 {
	all := everywhere()
	twice := slices.Clone(all)
	twice[255] = 0
	inner := slices.Clone(all)
	inner[100] = 101
	return map[string][2][]uint8{
		"no value":                           {{1}, nil},
		"no place":                           {nil, {1}},
		"no place for a zero":                {nil, {0}},
		"too few values":                     {{1, 2, 3}, {1, 2}},
		"too many values":                    {{1, 2}, {1, 2, 3}},
		"too many values, which are zeros":   {{1, 2}, {0, 0, 0}},
		"a place twice":                      {{1, 1}, {1, 2}},
		"a place twice, with one value":      {{7, 7}, {5, 5}},
		"a place twice, with zeros":          {{7, 7}, {0, 0}},
		"the place 0 twice":                  {{0, 0}, {1, 2}},
		"the place 0 twice, apart":           {{0, 1, 2, 0}, {1, 2, 3, 1}},
		"the place 255 twice":                {{255, 3, 255}, {0, 0, 0}},
		"the last two places":                {{1, 2, 3, 3}, {1, 2, 3, 3}},
		"the first two places":               {{3, 3, 2, 1}, {1, 2, 3, 4}},
		"a place three times":                {{4, 4, 4}, {1, 2, 3}},
		"a place twice, and too few values":  {{1, 1}, {1}},
		"a place twice, and too many values": {{1, 1}, {1, 2, 3}},
		"256 places, the first again":        {twice, all},
		"256 places, one of them twice":      {inner, all},
		"257 places":                         {append(everywhere(), 9), zeros(257)},
		"257 values":                         {all, zeros(257)},
		"255 values":                         {all, zeros(255)},
		"512 places":                         {append(everywhere(), all...), zeros(512)},
		"very many places":                   {zeros(1 << 20), zeros(1 << 20)},
		"very many values":                   {{1}, zeros(1 << 20)},
	}
}
