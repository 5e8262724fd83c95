package merkle

import (
	"math"
	"math/rand"
	"slices"
	"testing"

	"quietus/api"
)

// subset returns the positions of the binary digits 1 of a number.
func subset(bits int) []int {
	var l []int
	for i := 0; bits > 0; i, bits = i+1, bits/2 {
		if bits%2 == 1 {
			l = append(l, i)
		}
	}
	return l
}

// some returns strictly ascending positions of a list of n elements, about one in so many.
func some(r *rand.Rand, n, oneIn int) []int {
	var l []int
	for i := range n {
		if r.Intn(oneIn) == 0 {
			l = append(l, i)
		}
	}
	return l
}

func TestManyExamples(t *testing.T) {
	a, b, c := Leaf("a"), Leaf("b"), Leaf("c")
	three := []api.Digest{a, b, c}
	for _, x := range []struct {
		l      []api.Digest
		places []int
		path   []api.Digest
		e      api.Errno
	}{
		{nil, nil, nil, api.OK},
		{nil, []int{}, nil, api.OK},
		{nil, []int{0}, nil, api.ErrArg},
		{nil, []int{-1}, nil, api.ErrArg},
		{three[:1], nil, []api.Digest{a}, api.OK},
		{three[:1], []int{0}, nil, api.OK},
		{three[:1], []int{1}, nil, api.ErrArg},
		{three[:2], nil, []api.Digest{Node(a, b)}, api.OK},
		{three[:2], []int{1}, []api.Digest{a}, api.OK},
		{three[:2], []int{0, 1}, nil, api.OK},
		{three, nil, []api.Digest{Node(Node(a, b), c)}, api.OK},
		{three, []int{0}, []api.Digest{b, c}, api.OK},
		{three, []int{2}, []api.Digest{Node(a, b)}, api.OK},
		{three, []int{0, 2}, []api.Digest{b}, api.OK},
		{three, []int{0, 1, 2}, nil, api.OK},
		{three, []int{0, 1, 2, 3}, nil, api.ErrArg},
		{three, []int{1, 0}, nil, api.ErrArg},
		{three, []int{0, 0}, nil, api.ErrArg},
		{three, []int{0, 1, 1}, nil, api.ErrArg},
		{three, []int{0, 2, 1}, nil, api.ErrArg},
		{three, []int{-1, 0}, nil, api.ErrArg},
		{three, []int{0, 3}, nil, api.ErrArg},
		{three, []int{3, 0}, nil, api.ErrArg},
		{three, []int{math.MaxInt, math.MinInt}, nil, api.ErrArg},
		{three, []int{math.MinInt}, nil, api.ErrArg},
		{three, []int{math.MaxInt}, nil, api.ErrArg},
	} {
		if path, e := Many(x.l, x.places); !slices.Equal(path, x.path) || e != x.e {
			t.Errorf("P3.4: Many of %v of a list of %d: %x, %d", x.places, len(x.l), path, e)
		}
	}
}

// checkMany makes the proof that l has its elements at the places, and checks it.
func checkMany(t *testing.T, l []api.Digest, places []int) sparse {
	t.Helper()
	s := newSparse(len(l), places, within(l))
	before, asked := slices.Clone(l), slices.Clone(places)
	path, e := Many(l, places)
	if e != api.OK || !slices.Equal(path, s.path) {
		t.Fatalf("P3.4: Many of %v of a list of %d: %x, %d", places, len(l), path, e)
	}
	if !CheckMany(len(l), places, s.found, path, wantRoot(l)) {
		t.Fatal("P3.6, P3.8: CheckMany refuses the proof of", places, "of a list of", len(l))
	}
	for k := range path {
		path[k] = api.Digest{}
	}
	if !slices.Equal(l, before) || !slices.Equal(places, asked) {
		t.Fatal("DOC.md, Memory: Many of", places, "of a list of", len(l), "shares memory, or has modified an argument")
	}
	return s
}

func TestMany(t *testing.T) {
	for n := range 10 {
		for bits := range 1 << n {
			checkMany(t, list(n), subset(bits))
		}
	}
	r := rand.New(rand.NewSource(4))
	for _, n := range []int{15, 16, 17, 31, 32, 33, 64, 65, 100, 128, 129, 255, 257} {
		l := list(n)
		checkMany(t, l, nil)
		checkMany(t, l, upTo(n-1))
		for i := range 20 {
			checkMany(t, l, some(r, n, i+1))
		}
	}
}

func TestCheckManyRefuses(t *testing.T) {
	for n := 1; n <= 7; n++ {
		l := list(n)
		for bits := range 1 << n {
			places := subset(bits)
			s := newSparse(n, places, within(l))
			for _, path := range otherPaths(s.path) {
				if CheckMany(n, places, s.found, path, s.root) {
					t.Fatal("P3.4: another path for", places, "of a list of", n, "with", len(path), "digests")
				}
			}
			for _, found := range otherPaths(s.found) {
				if CheckMany(n, places, found, s.path, s.root) {
					t.Fatal("P3.4: other elements at", places, "of a list of", n)
				}
			}
			for _, root := range others(s.root) {
				if CheckMany(n, places, s.found, s.path, root) {
					t.Fatal("P3.4: another root for", places, "of a list of", n)
				}
			}
			for bits := range 1 << n {
				if other := subset(bits); !slices.Equal(other, places) && CheckMany(n, other, s.found, s.path, s.root) {
					t.Fatal("P3.4: the proof for", places, "as one for", other, "of a list of", n)
				}
			}
		}
	}
}

// TestCheckManySizes checks proofs with other places and other sizes, of which some have a path of the same form.
func TestCheckManySizes(t *testing.T) {
	for n := 1; n <= 6; n++ {
		l := list(n)
		for bits := range 1 << n {
			s := newSparse(n, subset(bits), within(l))
			for m := range 10 {
				for bits := range 1 << m {
					places := subset(bits)
					if want := leadsMany(m, places, s.found, s.path) == s.root; CheckMany(m, places, s.found, s.path, s.root) != want {
						t.Fatal("P3.4: the proof for", s.places, "of", n, "as one for", places, "of", m, "is accepted:", !want)
					}
				}
			}
		}
	}
}

// leadsMany returns the root to which a path leads, with the elements found at the places of a list of n; the zero digest if there are not as many of either as necessary.
func leadsMany(n int, places []int, found, path []api.Digest) api.Digest {
	rest := [2][]api.Digest{found, path}
	s := newSparse(n, places, func(from, size int) api.Digest {
		kind := 1
		if slices.Contains(places, from) {
			kind = 0
		}
		if len(rest[kind]) == 0 {
			return api.Digest{}
		}
		d := rest[kind][0]
		rest[kind] = rest[kind][1:]
		return d
	})
	if len(s.found) != len(found) || len(s.path) != len(path) {
		return api.Digest{}
	}
	return s.root
}

// TestCheckManyPlaces checks lists that are not strictly ascending positions.
func TestCheckManyPlaces(t *testing.T) {
	l := list(3)
	for _, places := range [][]int{{-1}, {3}, {math.MinInt}, {math.MaxInt}, {1, 0}, {0, 0}, {0, 1, 1}, {0, 2, 1}, {2, 1, 0}, {-1, 0}, {0, 3}, {-1, 0, 1, 2}, {0, 1, 2, 3}, {math.MaxInt, math.MinInt}} {
		for size := range 6 {
			for _, found := range [][]api.Digest{list(size), noise(size), make([]api.Digest, len(places))} {
				for k := range 4 {
					if CheckMany(3, places, found, l[:k], wantRoot(l)) {
						t.Fatal("P3.4: the places", places, "with", len(found), "elements and", k, "digests")
					}
				}
			}
		}
	}
	if CheckMany(3, []int{0, 0, 1}, []api.Digest{l[0], l[0], l[1]}, l[2:], wantRoot(l)) || CheckMany(3, []int{1, 0}, []api.Digest{l[1], l[0]}, l[2:], wantRoot(l)) {
		t.Error("P3.4: places that are not strictly ascending")
	}
	if CheckMany(3, []int{0, 1}, l[:3], l[2:], wantRoot(l)) || CheckMany(3, []int{0, 1}, l[:1], l[2:], wantRoot(l)) || CheckMany(3, nil, l[:1], []api.Digest{wantRoot(l)}, wantRoot(l)) {
		t.Error("P3.4: not as many elements as places")
	}
}

func TestCheckManyOfNothing(t *testing.T) {
	empty, d := digestOf(32), digestOf(30, "a")
	if !CheckMany(0, nil, nil, nil, empty) || !CheckMany(0, []int{}, []api.Digest{}, []api.Digest{}, empty) {
		t.Error("P3.4: the empty list")
	}
	if CheckMany(0, nil, nil, nil, d) || CheckMany(0, nil, nil, nil, api.Digest{}) || CheckMany(0, nil, nil, []api.Digest{empty}, empty) || CheckMany(0, nil, []api.Digest{empty}, nil, empty) || CheckMany(0, []int{0}, []api.Digest{empty}, nil, empty) || CheckMany(0, []int{-1}, []api.Digest{empty}, nil, empty) {
		t.Error("P3.4: the empty list, with something else")
	}
	for _, n := range []int{1, 2, 3, 4, 1000, api.MaxLeaves - 1, api.MaxLeaves} {
		if !CheckMany(n, nil, nil, []api.Digest{d}, d) || CheckMany(n, nil, nil, []api.Digest{d}, empty) || CheckMany(n, nil, nil, nil, d) || CheckMany(n, nil, nil, nil, empty) || CheckMany(n, nil, nil, []api.Digest{d, d}, d) {
			t.Error("P3.4: no places of", n)
		}
	}
	for _, n := range []int{math.MinInt, -1, api.MaxLeaves + 1, 2 * api.MaxLeaves, math.MaxInt} {
		if CheckMany(n, nil, nil, []api.Digest{d}, d) || CheckMany(n, nil, nil, nil, empty) {
			t.Error("P3.4: a list of", n)
		}
	}
}

func TestCheckManyOfBigLists(t *testing.T) {
	for _, n := range bigSizes() {
		all := bigPlaces(n)
		for k := range len(all) + 1 {
			for _, places := range [][]int{all[:k], all[k:]} {
				s := newSparse(n, places, virtual)
				if !CheckMany(n, places, s.found, s.path, s.root) {
					t.Fatal("P3.4: CheckMany refuses the proof of", places, "of a list of", n)
				}
				if CheckMany(n, places, s.found, append(slices.Clone(s.path), s.root), s.root) || len(s.path) > 0 && CheckMany(n, places, s.found, s.path[1:], s.root) || CheckMany(n, places, s.found, s.path, digestOf(32)) {
					t.Fatal("P3.4: another path, or another root, for", places, "of a list of", n)
				}
			}
		}
		one := newSparse(n, []int{n - 1}, virtual)
		if !CheckInclusion(one.found[0], n-1, n, reversed(one.path), one.root) {
			t.Fatal("P3.2, P3.4: the last position's path is the same from the right to the left")
		}
	}
	big := newSparse(api.MaxLeaves+1, []int{0, api.MaxLeaves}, virtual)
	if CheckMany(big.n, big.places, big.found, big.path, big.root) {
		t.Error("P3.4: a list of more than the greatest number of elements")
	}
}

// reversed returns the digests from the last one to the first one.
func reversed(l []api.Digest) []api.Digest {
	r := slices.Clone(l)
	slices.Reverse(r)
	return r
}
