package merkle

import (
	"math"
	"math/rand"
	"slices"
	"testing"

	"quietus/api"
)

func TestInclusionExamples(t *testing.T) {
	a, b, c := Leaf("a"), Leaf("b"), Leaf("c")
	for _, x := range []struct {
		l    []api.Digest
		i    int
		path []api.Digest
		e    api.Errno
	}{
		{nil, 0, nil, api.ErrArg},
		{nil, -1, nil, api.ErrArg},
		{[]api.Digest{a}, 0, nil, api.OK},
		{[]api.Digest{a}, 1, nil, api.ErrArg},
		{[]api.Digest{a, b}, 0, []api.Digest{b}, api.OK},
		{[]api.Digest{a, b}, 1, []api.Digest{a}, api.OK},
		{[]api.Digest{a, b, c}, 0, []api.Digest{b, c}, api.OK},
		{[]api.Digest{a, b, c}, 1, []api.Digest{a, c}, api.OK},
		{[]api.Digest{a, b, c}, 2, []api.Digest{Node(a, b)}, api.OK},
		{[]api.Digest{a, b, c}, 3, nil, api.ErrArg},
		{[]api.Digest{a, b, c}, -1, nil, api.ErrArg},
	} {
		if path, e := Inclusion(x.l, x.i); !slices.Equal(path, x.path) || e != x.e {
			t.Errorf("P3.2: Inclusion of %d in a list of %d: %x, %d", x.i, len(x.l), path, e)
		}
	}
}

func TestInclusion(t *testing.T) {
	for _, n := range append(upTo(40), 63, 64, 65, 128, 129) {
		l := list(n)
		old := slices.Clone(l)
		root := wantRoot(l)
		for i := range l {
			path, e := Inclusion(l, i)
			if e != api.OK || !slices.Equal(path, wantInclusion(l, i)) {
				t.Fatalf("P3.2: Inclusion of %d in a list of %d: %x, %d", i, n, path, e)
			}
			if !CheckInclusion(l[i], i, n, path, root) {
				t.Fatal("P3.6: CheckInclusion refuses the proof of", i, "in a list of", n)
			}
			for k := range path {
				path[k] = api.Digest{}
			}
			if !slices.Equal(l, old) {
				t.Fatal("DOC.md, Memory: Inclusion of", i, "in a list of", n, "shares memory, or has modified the list")
			}
		}
		for _, i := range []int{math.MinInt, -n - 1, -1, n, n + 1, math.MaxInt} {
			if path, e := Inclusion(l, i); e != api.ErrArg || len(path) != 0 {
				t.Fatal("P3.2: Inclusion of", i, "in a list of", n, e, len(path))
			}
		}
	}
}

func TestCheckInclusionRefuses(t *testing.T) {
	for n := 1; n <= 20; n++ {
		l := list(n)
		root := wantRoot(l)
		for i := range l {
			path := wantInclusion(l, i)
			for _, other := range otherPaths(path) {
				if CheckInclusion(l[i], i, n, other, root) {
					t.Fatal("P3.2: another path for", i, "in a list of", n, "with", len(other), "digests")
				}
			}
			for _, d := range others(root) {
				if CheckInclusion(l[i], i, n, path, d) {
					t.Fatal("P3.2: another root for", i, "in a list of", n)
				}
			}
			for _, d := range append(others(l[i]), root) {
				if d != l[i] && CheckInclusion(d, i, n, path, root) {
					t.Fatal("P3.2, P3.7: another leaf for", i, "in a list of", n)
				}
			}
			for j := range l {
				if j != i && CheckInclusion(l[j], i, n, wantInclusion(l, j), root) {
					t.Fatal("P3.2: the leaf", j, "at", i, "in a list of", n)
				}
			}
		}
	}
}

// TestCheckInclusionSizes checks proofs with other positions and other sizes, of which some have a path of the same form.
func TestCheckInclusionSizes(t *testing.T) {
	for n := 1; n <= 20; n++ {
		l := list(n)
		root := wantRoot(l)
		for i := range l {
			path := wantInclusion(l, i)
			for m := -2; m <= 36; m++ {
				for j := -2; j <= 36; j++ {
					want := false
					if 0 <= j && j < m {
						r, fits := leads(l[i], j, m, path)
						want = fits && r == root
					}
					if CheckInclusion(l[i], j, m, path, root) != want {
						t.Fatal("P3.2: the proof of", i, "of", n, "as one of", j, "of", m, "is accepted:", !want)
					}
				}
			}
		}
	}
}

// bigSizes are numbers of elements of lists that are too long to be made.
func bigSizes() []int {
	r := rand.New(rand.NewSource(3))
	l := []int{api.MaxLeaves, api.MaxLeaves - 1, api.MaxLeaves - 2, api.MaxLeaves / 2, api.MaxLeaves/2 + 1, api.MaxLeaves/2 - 1, api.MaxLeaves - 1<<20, 1<<32 + 1, 1<<31 - 1, 1 << 31}
	for range 20 {
		l = append(l, r.Intn(api.MaxLeaves)+1)
	}
	return l
}

// bigPlaces are positions in a list of n elements.
func bigPlaces(n int) []int {
	r := rand.New(rand.NewSource(int64(n)))
	l := []int{0, 1, 2, n/2 - 1, n / 2, n/2 + 1, n - 3, n - 2, n - 1, half(n) - 1, half(n)}
	for range 10 {
		l = append(l, r.Intn(n))
	}
	slices.Sort(l)
	return slices.Compact(l)
}

func TestCheckInclusionOfBigLists(t *testing.T) {
	all := noise(60)
	for _, n := range bigSizes() {
		for _, i := range bigPlaces(n) {
			accepted := 0
			for size := range 45 {
				root, fits := leads(all[50], i, n, all[:size])
				if CheckInclusion(all[50], i, n, all[:size], root) != fits {
					t.Fatal("P3.2: a path of", size, "digests for", i, "in a list of", n, "is accepted:", !fits)
				}
				if fits && (CheckInclusion(all[51], i, n, all[:size], root) || CheckInclusion(all[50], i, n, all[:size], all[52])) {
					t.Fatal("P3.2: another leaf, or another root, of", i, "in a list of", n)
				}
				if fits {
					accepted++
				}
			}
			if accepted != 1 {
				t.Fatal("P3.2: paths of", accepted, "lengths for", i, "in a list of", n)
			}
		}
	}
	twice := 2 * api.MaxLeaves
	for _, n := range []int{api.MaxLeaves + 1, api.MaxLeaves + 2, twice, twice - 1} {
		for size := range 45 {
			root, _ := leads(all[50], n-1, n, all[:size])
			if CheckInclusion(all[50], n-1, n, all[:size], root) {
				t.Fatal("P3.2: a list of", n, "elements, with a path of", size)
			}
		}
	}
}

// TestBinding looks for two leaves at one position under one root, among all paths that are made of known digests.
func TestBinding(t *testing.T) {
	for n := 1; n <= 5; n++ {
		l := list(n)
		known := append(slices.Clone(l), digestOf(32), api.Digest{})
		for from := range n {
			for to := from + 2; to <= n; to++ {
				known = append(known, wantRoot(l[from:to]))
			}
		}
		root := wantRoot(l)
		for i := range l {
			proof := wantInclusion(l, i)
			var path []api.Digest
			var extend func()
			extend = func() {
				for _, leaf := range known {
					if CheckInclusion(leaf, i, n, path, root) != (leaf == l[i] && slices.Equal(path, proof)) {
						t.Fatalf("P3.7: the leaf %x at %d in a list of %d, with the path %x", leaf, i, n, path)
					}
				}
				if len(path) == 3 {
					return
				}
				for _, d := range known {
					path = append(path, d)
					extend()
					path = path[:len(path)-1]
				}
			}
			extend()
		}
	}
}
