package merkle

import (
	"math"
	"slices"
	"testing"

	"quietus/api"
)

func TestConsistencyExamples(t *testing.T) {
	a, b, c := Leaf("a"), Leaf("b"), Leaf("c")
	three := []api.Digest{a, b, c}
	for _, x := range []struct {
		l    []api.Digest
		m    int
		path []api.Digest
		e    api.Errno
	}{
		{nil, 0, nil, api.OK},
		{nil, 1, nil, api.ErrArg},
		{nil, -1, nil, api.ErrArg},
		{three[:1], 0, nil, api.OK},
		{three[:1], 1, nil, api.OK},
		{three[:1], 2, nil, api.ErrArg},
		{three[:2], 1, []api.Digest{b}, api.OK},
		{three[:2], 2, nil, api.OK},
		{three, 0, nil, api.OK},
		{three, 1, []api.Digest{b, c}, api.OK},
		{three, 2, []api.Digest{c}, api.OK},
		{three, 3, nil, api.OK},
		{three, 4, nil, api.ErrArg},
		{three, -1, nil, api.ErrArg},
		{[]api.Digest{a, b, c, a}, 3, []api.Digest{c, a, Node(a, b)}, api.OK},
	} {
		if path, e := Consistency(x.l, x.m); !slices.Equal(path, x.path) || e != x.e {
			t.Errorf("P3.3: Consistency with m = %d of a list of %d: %x, %d", x.m, len(x.l), path, e)
		}
	}
}

func TestConsistency(t *testing.T) {
	for _, n := range append(upTo(40), 63, 64, 65, 128, 129) {
		l := list(n)
		before := slices.Clone(l)
		root := wantRoot(l)
		for m := range n + 1 {
			path, e := Consistency(l, m)
			if e != api.OK || !slices.Equal(path, wantConsistency(l, m, true)) {
				t.Fatalf("P3.3: Consistency with m = %d of a list of %d: %x, %d", m, n, path, e)
			}
			if !CheckConsistency(m, n, wantRoot(l[:m]), root, path) {
				t.Fatal("P3.6, P3.8: CheckConsistency refuses the proof of", m, "of", n)
			}
			for k := range path {
				path[k] = api.Digest{}
			}
			if !slices.Equal(l, before) {
				t.Fatal("DOC.md, Memory: Consistency of", m, "of", n, "shares memory, or has modified the list")
			}
		}
		for _, m := range []int{math.MinInt, -n - 1, -1, n + 1, n + 2, math.MaxInt} {
			if path, e := Consistency(l, m); e != api.ErrArg || len(path) != 0 {
				t.Fatal("P3.3: Consistency with m =", m, "of a list of", n, e, len(path))
			}
		}
	}
}

func TestCheckConsistencyRefuses(t *testing.T) {
	for n := range 21 {
		l := list(n)
		root := wantRoot(l)
		for m := range n + 1 {
			old, path := wantRoot(l[:m]), wantConsistency(l, m, true)
			for _, other := range otherPaths(path) {
				if CheckConsistency(m, n, old, root, other) {
					t.Fatal("P3.3: another path for", m, "of", n, "with", len(other), "digests")
				}
			}
			for _, d := range append(others(root), old) {
				if d != root && CheckConsistency(m, n, old, d, path) != (m == 0) {
					t.Fatal("P3.8: another root of all, for", m, "of", n)
				}
			}
			for _, d := range append(others(old), root, api.Digest{}) {
				if d != old && CheckConsistency(m, n, d, root, path) {
					t.Fatal("P3.8: another root of the first elements, for", m, "of", n)
				}
			}
			for k := range n + 1 {
				if k != m && CheckConsistency(m, n, wantRoot(l[:k]), root, wantConsistency(l, k, true)) {
					t.Fatal("P3.8: the proof for", k, "of", n, "as one for", m)
				}
			}
		}
	}
}

// TestCheckConsistencySizes checks proofs with other numbers of elements, of which some have a path of the same form.
func TestCheckConsistencySizes(t *testing.T) {
	for n := 1; n <= 12; n++ {
		l := list(n)
		root := wantRoot(l)
		for m := range n + 1 {
			old, path := wantRoot(l[:m]), wantConsistency(l, m, true)
			for a := -2; a <= 20; a++ {
				for b := -2; b <= 20; b++ {
					if want := consistent(a, b, old, root, path); CheckConsistency(a, b, old, root, path) != want {
						t.Fatal("P3.3: the proof for", m, "of", n, "as one for", a, "of", b, "is accepted:", !want)
					}
				}
			}
		}
	}
}

// consistent is what CheckConsistency reports, but for the greatest number of elements.
func consistent(m, n int, old, root api.Digest, path []api.Digest) bool {
	switch {
	case m < 0 || m > n:
		return false
	case m == 0:
		return len(path) == 0 && old == digestOf(32)
	case m == n:
		return len(path) == 0 && old == root
	}
	before, after, fits := leadsBoth(m, n, old, path)
	return fits && before == old && after == root
}

// TestEmptyBeginning checks that nothing but the old root is looked at if it is that of the empty list.
func TestEmptyBeginning(t *testing.T) {
	empty, d := digestOf(32), digestOf(30, "a")
	for _, n := range []int{0, 1, 2, 3, 4, 100, api.MaxLeaves - 1, api.MaxLeaves} {
		for _, root := range []api.Digest{empty, d, {}} {
			if !CheckConsistency(0, n, empty, root, nil) || !CheckConsistency(0, n, empty, root, []api.Digest{}) {
				t.Error("P3.3: no elements of", n)
			}
			if CheckConsistency(0, n, d, root, nil) || CheckConsistency(0, n, api.Digest{}, root, nil) || CheckConsistency(0, n, root, root, nil) != (root == empty) {
				t.Error("P3.3: no elements of", n, "with another root")
			}
			if CheckConsistency(0, n, empty, root, []api.Digest{d}) || CheckConsistency(0, n, empty, root, []api.Digest{empty}) {
				t.Error("P3.3: no elements of", n, "with a path")
			}
		}
	}
	for _, n := range []int{1, 2, 3, 4, 100, api.MaxLeaves - 1, api.MaxLeaves} {
		if !CheckConsistency(n, n, d, d, nil) || CheckConsistency(n, n, d, empty, nil) || CheckConsistency(n, n, d, d, []api.Digest{d}) {
			t.Error("P3.3: all of", n)
		}
	}
	for _, n := range []int{-1, api.MaxLeaves + 1, 2 * api.MaxLeaves, math.MaxInt, math.MinInt} {
		if CheckConsistency(0, n, empty, empty, nil) || CheckConsistency(n, n, d, d, nil) {
			t.Error("P3.3: lists of", n)
		}
	}
	if CheckConsistency(-1, 0, empty, empty, nil) || CheckConsistency(1, 0, empty, empty, nil) || CheckConsistency(2, 1, d, d, nil) {
		t.Error("P3.3: an m that is outside the list")
	}
}

func TestCheckConsistencyOfBigLists(t *testing.T) {
	all := noise(60)
	for _, n := range bigSizes() {
		for _, m := range bigPlaces(n) {
			if m == 0 {
				continue
			}
			accepted := 0
			for size := range 45 {
				path := all[:size]
				before, after, fits := leadsBoth(m, n, all[50], path)
				if CheckConsistency(m, n, before, after, path) != fits {
					t.Fatal("P3.3: a path of", size, "digests for", m, "of", n, "is accepted:", !fits)
				}
				if fits && (CheckConsistency(m, n, all[51], after, path) || CheckConsistency(m, n, before, all[51], path)) {
					t.Fatal("P3.8: another root of", m, "or of", n)
				}
				if fits {
					accepted++
				}
			}
			if accepted != 1 {
				t.Fatal("P3.3: paths of", accepted, "lengths for", m, "of", n)
			}
		}
	}
	for size := range 45 {
		before, after, _ := leadsBoth(api.MaxLeaves, api.MaxLeaves+1, all[50], all[:size])
		if CheckConsistency(api.MaxLeaves, api.MaxLeaves+1, before, after, all[:size]) {
			t.Fatal("P3.3: a list of more than the greatest number of elements")
		}
	}
}
