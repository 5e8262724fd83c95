package gf

import (
	"math"
	"math/big"
	"math/rand"
)

// coefficients are those of the polynomial for which a number stands: its binary digits, that of x^0 first.
func coefficients(n int) []int {
	var p []int
	for ; n > 0; n /= 2 {
		p = append(p, n%2)
	}
	return p
}

// wantMul is the product of two polynomials over GF(2), divided by the polynomial 285: the remainder.
func wantMul(a, b uint8) uint8 {
	p := make([]int, 15)
	for i, x := range coefficients(int(a)) {
		for j, y := range coefficients(int(b)) {
			p[i+j] = (p[i+j] + x*y) % 2
		}
	}
	divisor := coefficients(285)
	for k := len(p) - 1; k >= 8; k-- {
		q := p[k]
		for i, c := range divisor {
			p[k-8+i] = (p[k-8+i] + q*c) % 2
		}
	}
	n := 0
	for k, c := range p {
		n += c << k
	}
	return uint8(n)
}

// products is wantMul of all pairs of bytes.
func products() *[256][256]uint8 {
	var all [256][256]uint8
	for a := range 256 {
		for b := range 256 {
			all[a][b] = wantMul(uint8(a), uint8(b))
		}
	}
	return &all
}

// modulo is n modulo 255, from 0 to 254.
func modulo(n int) int {
	return int(new(big.Int).Mod(big.NewInt(int64(n)), big.NewInt(255)).Int64())
}

// wantPowers are the powers of a with the exponents from 0 to 254.
func wantPowers(a uint8) [255]uint8 {
	l := [255]uint8{1}
	for n := 1; n < len(l); n++ {
		l[n] = wantMul(l[n-1], a)
	}
	return l
}

// exponents are small and great ones of both signs, around the multiples of 255 and around the limits of integers.
func exponents() []int {
	var l []int
	for n := -600; n <= 600; n++ {
		l = append(l, n)
	}
	for _, n := range []int{math.MinInt32, math.MaxInt32, 1 << 40, 255 << 40, -255 << 40, 255 * 255, -255 * 255, math.MinInt / 255, math.MaxInt / 255, math.MaxInt / 255 * 255, math.MinInt / 255 * 255, math.MinInt / 254, math.MaxInt / 254} {
		l = append(l, n-2, n-1, n, n+1, n+2)
	}
	return append(l, math.MinInt, math.MinInt+1, math.MinInt+2, math.MaxInt-2, math.MaxInt-1, math.MaxInt)
}

// wantSum is the sum of two strings, as P4.3 describes it.
func wantSum(a, b string) string {
	var sum []byte
	for i := range max(len(a), len(b)) {
		var x, y byte
		if i < len(a) {
			x = a[i]
		}
		if i < len(b) {
			y = b[i]
		}
		sum = append(sum, x^y)
	}
	return string(sum)
}

// wantScale is the string of the products of c and each byte.
func wantScale(c uint8, s string) string {
	var v []byte
	for i := range len(s) {
		v = append(v, wantMul(c, s[i]))
	}
	return string(v)
}

// wantCombine is the sum of all scaled parts, of n bytes each.
func wantCombine(n int, coef []uint8, parts []string) string {
	sum := string(make([]byte, n))
	for k := range parts {
		sum = wantSum(sum, wantScale(coef[k], parts[k]))
	}
	return sum
}

// noise returns n bytes.
func noise(r *rand.Rand, n int) string {
	b := make([]byte, n)
	r.Read(b)
	return string(b)
}

// noises returns many strings of n bytes.
func noises(r *rand.Rand, many, n int) []string {
	var l []string
	for range many {
		l = append(l, noise(r, n))
	}
	return l
}
