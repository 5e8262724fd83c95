package poly

import "quietus/api"

// Interpolate returns the polynomial through points.
func Interpolate(xs, ys []uint8) ([]uint8, api.Errno) {
	if !right(xs, ys) {
		return nil, api.ErrArg
	}
	return interpolated(xs, ys), api.OK
}

// Through returns the polynomial of a degree through points.
func Through(xs, ys []uint8, degree int) ([]uint8, api.Errno) {
	if !right(xs, ys) {
		return nil, api.ErrArg
	}
	if degree < 0 || degree >= len(xs) {
		return nil, api.ErrRange
	}
	p := interpolated(xs, ys)
	if Degree(p) > degree { // no other polynomial of a degree less than the number of points misses none of them
		return nil, api.ErrNone
	}
	return p, api.OK
}

// Decode returns the polynomial that misses few points.
func Decode(xs, ys []uint8, degree, wrong int) (p []uint8, at []int, e api.Errno) {
	if !right(xs, ys) {
		return nil, nil, api.ErrArg
	}
	most := len(xs) - 1
	if degree < 0 || wrong < 0 || degree > most || wrong > (most-degree)/2 { // degree + 1 + 2 * wrong could be too great for an int
		return nil, nil, api.ErrRange
	}
	p = candidate(vanishing(xs), interpolated(xs, ys), len(xs)-wrong)
	at = missed(p, xs, ys)
	if Degree(p) > degree || len(at) > wrong {
		return nil, nil, api.ErrLost
	}
	return p, at, api.OK
}

// right reports whether points are right.
func right(xs, ys []uint8) bool {
	seen := [256]bool{}
	for _, x := range xs {
		if seen[x] {
			return false
		}
		seen[x] = true
	}
	return len(xs) == len(ys)
}

// root returns the polynomial x - a, which is 0 at a only.
func root(a uint8) []uint8 { return []uint8{a, 1} } // minus is plus

// interpolated returns what Interpolate does, for right points.
func interpolated(xs, ys []uint8) []uint8 {
	whole := vanishing(xs)
	others := func(i int) []uint8 {
		q, _ := divide(whole, root(xs[i]))
		return q
	}
	terms := make([][]uint8, len(xs))
	for i := range terms {
		p := others(i)
		terms[i] = product([]uint8{quotient(ys[i], Eval(p, xs[i]))}, p)
	}
	return sum(terms...)
}

// vanishing returns the product that is 0 at the elements of a list, and nowhere else.
func vanishing(xs []uint8) []uint8 {
	p := []uint8{1}
	for _, x := range xs {
		p = product(p, root(x))
	}
	return p
}

// missed returns the indices of the points that a polynomial misses.
func missed(p, xs, ys []uint8) []int {
	var at []int
	for i, x := range xs {
		if Eval(p, x) != ys[i] {
			at = append(at, i)
		}
	}
	return at
}

// remainder is a polynomial that has, at all points, the values of times * all, where all is the polynomial through them.
type remainder struct{ rest, times []uint8 }

// candidate returns the polynomial that Decode searches for, if there is one: whole is 0 at all points, all misses none of them, and most is their number less that of those that may be missed. (It is at least 1, so that no remainder by which the search divides is zero.)
//
// The search for the common divisor of whole and all stops at the first remainder that has at most that many coefficients; the degree of its times is not greater than the number of points that may be missed. If f is the polynomial, and m is 0 at the points that it misses, then m * f has the values of m * all at all points, and m * rest those of times * m * f. The degrees of both are less than the number of points, so they are equal: rest is times * f.
func candidate(whole, all []uint8, most int) []uint8 {
	a, b := remainder{rest: whole}, remainder{all, []uint8{1}}
search:
	for {
		k := len(a.rest) - len(b.rest)
		switch {
		case len(b.rest) <= most:
			break search
		case k < 0:
			a, b = b, a
		default:
			step := append(make([]uint8, k), quotient(last(a.rest), last(b.rest)))
			a.rest = sum(a.rest, product(step, b.rest))
			a.times = sum(a.times, product(step, b.times))
		}
	}
	f, _ := divide(b.rest, b.times)
	return f
}
