package merkle

import (
	"slices"

	"quietus/api"
)

// CheckInclusion checks a proof of Inclusion.
func CheckInclusion(leaf api.Digest, i, n int, path []api.Digest, root api.Digest) bool {
	if n < 1 || n > api.MaxLeaves || i < 0 || i >= n {
		return false
	}
	return follow(path, func(next func() api.Digest) bool {
		var rootOf func(i, n int) api.Digest
		rootOf = func(i, n int) api.Digest {
			if n == 1 {
				return leaf
			}
			k := firstSize(n)
			if i < k {
				first := rootOf(i, k)
				return Node(first, next())
			}
			second := rootOf(i-k, n-k)
			return Node(next(), second)
		}
		return rootOf(i, n) == root
	})
}

// CheckConsistency checks a proof of Consistency.
func CheckConsistency(m, n int, old, root api.Digest, path []api.Digest) bool {
	switch {
	case m < 0 || m > n || n > api.MaxLeaves:
		return false
	case m == 0:
		return len(path) == 0 && old == Root(nil)
	}
	return follow(path, func(next func() api.Digest) bool {
		var rootsOf func(m, n int, mark bool) (before, after api.Digest)
		rootsOf = func(m, n int, mark bool) (before, after api.Digest) {
			if m == n {
				same := old
				if !mark {
					same = next()
				}
				return same, same
			}
			k := firstSize(n)
			if m <= k {
				before, after = rootsOf(m, k, mark)
				return before, Node(after, next())
			}
			before, after = rootsOf(m-k, n-k, false)
			first := next()
			return Node(first, before), Node(first, after)
		}
		before, after := rootsOf(m, n, true)
		return before == old && after == root
	})
}

// CheckMany checks a proof of Many.
func CheckMany(n int, places []int, found, path []api.Digest, root api.Digest) bool {
	if n < 0 || n > api.MaxLeaves || !ascending(places, n) || len(found) != len(places) {
		return false
	}
	if n == 0 {
		return len(path) == 0 && root == Root(nil)
	}
	return follow(path, func(next func() api.Digest) bool {
		var rootOf func(from, to int, places []int, found []api.Digest) api.Digest
		rootOf = func(from, to int, places []int, found []api.Digest) api.Digest {
			if len(places) == 0 {
				return next()
			}
			if to-from == 1 {
				return found[0]
			}
			middle := from + firstSize(to-from)
			j, _ := slices.BinarySearch(places, middle)
			first := rootOf(from, middle, places[:j], found[:j])
			second := rootOf(middle, to, places[j:], found[j:])
			return Node(first, second)
		}
		return rootOf(0, n, places, found) == root
	})
}

// follow reports whether a check accepts a path, of which it takes exactly all digests, from the first one on.
func follow(path []api.Digest, check func(next func() api.Digest) bool) (holds bool) {
	taken := 0
	defer func() { holds = holds && taken == len(path) }()
	return check(func() api.Digest {
		taken++
		if taken > len(path) { // the check goes on with any digest, and is refused in the end
			return api.Digest{}
		}
		return path[taken-1]
	})
}
