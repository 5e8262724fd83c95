package merkle

import (
	"crypto/sha256"
	"math/rand"
	"slices"
	"strconv"

	"quietus/api"
)

// The functions of this file read the chapter word by word, with the standard library's SHA-256; the checks are those of RFC 9162, which go through a path without recursion.

// digestOf returns hash.Of(tag, parts...) for parts of less than 64 bytes, whose length is one byte.
func digestOf(tag byte, parts ...string) api.Digest {
	b := []byte{tag}
	for _, p := range parts {
		b = append(append(b, byte(2*len(p))), p...)
	}
	sum := sha256.Sum256(b)
	return api.Digest(sum[:16])
}

func wantNode(a, b api.Digest) api.Digest { return digestOf(31, string(a[:]), string(b[:])) }

// half returns k: how many of n elements the first part has.
func half(n int) int {
	k := 1
	for 2*k < n {
		k *= 2
	}
	return k
}

func wantRoot(l []api.Digest) api.Digest {
	switch len(l) {
	case 0:
		return digestOf(32)
	case 1:
		return l[0]
	}
	k := half(len(l))
	return wantNode(wantRoot(l[:k]), wantRoot(l[k:]))
}

func wantInclusion(l []api.Digest, i int) []api.Digest {
	if len(l) == 1 {
		return nil
	}
	k := half(len(l))
	if i < k {
		return append(wantInclusion(l[:k], i), wantRoot(l[k:]))
	}
	return append(wantInclusion(l[k:], i-k), wantRoot(l[:k]))
}

func wantConsistency(l []api.Digest, m int, mark bool) []api.Digest {
	k := half(len(l))
	switch {
	case m == 0 || m == len(l) && mark:
		return nil
	case m == len(l):
		return []api.Digest{wantRoot(l)}
	case m <= k:
		return append(wantConsistency(l[:k], m, mark), wantRoot(l[k:]))
	}
	return append(wantConsistency(l[k:], m-k, false), wantRoot(l[:k]))
}

// sparse is a list of n elements of which only those at the places are known, and the roots of the parts that have none of the places.
type sparse struct {
	n           int
	places      []int
	found, path []api.Digest
	root        api.Digest
}

// newSparse returns such a list with its proof of Many; known returns the root of a part, and the element of a part of one.
func newSparse(n int, places []int, known func(from, size int) api.Digest) sparse {
	s := sparse{n: n, places: places}
	var walk func(from, size int) api.Digest
	walk = func(from, size int) api.Digest {
		inside := slices.ContainsFunc(places, func(p int) bool { return from <= p && p < from+size })
		if !inside {
			d := known(from, size)
			s.path = append(s.path, d)
			return d
		}
		if size == 1 {
			d := known(from, 1)
			s.found = append(s.found, d)
			return d
		}
		k := half(size)
		a := walk(from, k)
		return wantNode(a, walk(from+k, size-k))
	}
	s.root = digestOf(32)
	if n > 0 {
		s.root = walk(0, n)
	}
	return s
}

// virtual names the root of each part of a list that is too long to be made.
func virtual(from, size int) api.Digest {
	return digestOf(99, strconv.Itoa(from), strconv.Itoa(size))
}

// within names the roots of the parts of a list.
func within(l []api.Digest) func(from, size int) api.Digest {
	return func(from, size int) api.Digest { return wantRoot(l[from : from+size]) }
}

// leads returns the root to which an inclusion path leads (RFC 9162, 2.1.3.2), and whether it has the right length.
func leads(leaf api.Digest, i, n int, path []api.Digest) (api.Digest, bool) {
	f, s, r := i, n-1, leaf
	for _, p := range path {
		if s == 0 {
			return r, false
		}
		if f%2 == 1 || f == s {
			r = wantNode(p, r)
			for f%2 == 0 && f != 0 {
				f, s = f/2, s/2
			}
		} else {
			r = wantNode(r, p)
		}
		f, s = f/2, s/2
	}
	return r, s == 0
}

// leadsBoth returns the two roots to which a consistency path leads (RFC 9162, 2.1.4.2), for 0 < m < n, and whether it has the right length.
func leadsBoth(m, n int, old api.Digest, path []api.Digest) (before, after api.Digest, fits bool) {
	if m&(m-1) == 0 {
		path = append([]api.Digest{old}, path...)
	}
	if len(path) == 0 {
		return old, old, false
	}
	f, s := m-1, n-1
	for f%2 == 1 {
		f, s = f/2, s/2
	}
	before, after = path[0], path[0]
	for _, c := range path[1:] {
		if s == 0 {
			return before, after, false
		}
		if f%2 == 1 || f == s {
			before, after = wantNode(c, before), wantNode(c, after)
			for f%2 == 0 && f != 0 {
				f, s = f/2, s/2
			}
		} else {
			after = wantNode(after, c)
		}
		f, s = f/2, s/2
	}
	return before, after, s == 0
}

// list returns n leaves, all of them different.
func list(n int) []api.Digest {
	l := make([]api.Digest, n)
	for i := range l {
		l[i] = digestOf(30, strconv.Itoa(i))
	}
	return l
}

// noise returns n digests, the same ones in each run.
func noise(n int) []api.Digest {
	r := rand.New(rand.NewSource(int64(n)))
	l := make([]api.Digest, n)
	for i := range l {
		r.Read(l[i][:])
	}
	return l
}

// others returns digests that are not d, some of them nearly.
func others(d api.Digest) []api.Digest {
	first, last, turned := d, d, d
	first[0] ^= 1
	last[len(last)-1] ^= 128
	slices.Reverse(turned[:])
	return []api.Digest{first, last, turned, wantNode(d, d), digestOf(32)}
}

// otherPaths returns paths that are not path: with a digest more or less, with another one, and with two in another order.
func otherPaths(path []api.Digest) [][]api.Digest {
	var l [][]api.Digest
	for i := range len(path) + 1 {
		l = append(l, slices.Insert(slices.Clone(path), i, digestOf(32)))
		if i == len(path) {
			break
		}
		l = append(l, slices.Delete(slices.Clone(path), i, i+1), slices.Insert(slices.Clone(path), i, path[i]))
		for _, d := range others(path[i]) {
			with := slices.Clone(path)
			with[i] = d
			l = append(l, with)
		}
		if i > 0 {
			with := slices.Clone(path)
			with[i-1], with[i] = with[i], with[i-1]
			l = append(l, with)
		}
	}
	if len(path) > 0 {
		l = append(l, nil)
	}
	return l
}

// upTo returns the numbers from 0 to n, both included.
func upTo(n int) []int {
	l := make([]int, n+1)
	for i := range l {
		l[i] = i
	}
	return l
}
