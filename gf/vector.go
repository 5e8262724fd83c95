package gf

import "quietus/api"

// Sum returns the sum of two strings.
func Sum(a, b string) string {
	if len(a) < len(b) {
		return Sum(b, a)
	}
	return vector(len(a), func(i int) uint8 {
		if i < len(b) {
			return a[i] ^ b[i]
		}
		return a[i]
	})
}

// Scale returns the product of a byte and a string.
func Scale(c uint8, s string) string {
	return vector(len(s), func(i int) uint8 { return Mul(c, s[i]) })
}

// Combine returns the sum of strings with coefficients.
func Combine(coef []uint8, parts []string) (string, api.Errno) {
	if len(coef) != len(parts) || !sameLength(parts) {
		return "", api.ErrArg
	}
	if len(parts) == 0 {
		return "", api.OK
	}
	return vector(len(parts[0]), func(i int) uint8 {
		sum := uint8(0)
		for k, c := range coef {
			sum ^= Mul(c, parts[k][i])
		}
		return sum
	}), api.OK
}

// vector returns the string that has at(i) at each position i, from 0 to n - 1.
func vector(n int, at func(i int) uint8) string {
	v := make([]byte, n)
	for i := range n {
		v[i] = at(i)
	}
	return string(v)
}

// sameLength reports whether all strings have the same length.
func sameLength(list []string) bool {
	for _, s := range list {
		if len(s) != len(list[0]) {
			return false
		}
	}
	return true
}
