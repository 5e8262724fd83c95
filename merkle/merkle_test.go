package merkle

import (
	"encoding/hex"
	"math"
	"slices"
	"strconv"
	"testing"

	"quietus/api"
	"quietus/hash"
)

func TestLeafAndNode(t *testing.T) {
	for _, x := range []struct {
		d    api.Digest
		want string
	}{
		{Leaf(""), "a408e4962b09eeb917c2bcea0d94ddae"},
		{Leaf("abc"), "6ea19876f9d0f4305b93c53a9e3dfbc3"},
		{Node(api.Digest{}, api.Digest(slices.Repeat([]byte{255}, 16))), "c2c4a147cc5bf78fb0ead51b780a2697"},
	} {
		if hex.EncodeToString(x.d[:]) != x.want {
			t.Errorf("P3.1: %x, not %s", x.d, x.want)
		}
	}
	texts := []string{"", "a", "\x00", "ab", "\x1e", "\x1f", "\x20", string(slices.Repeat([]byte{0}, 32)), string(slices.Repeat([]byte{200}, 34))}
	for _, s := range texts {
		if Leaf(s) != digestOf(30, s) {
			t.Errorf("P3.1: Leaf of %q", s)
		}
	}
	long := string(slices.Repeat([]byte("long"), 5000))
	if Leaf(long) != hash.Of(30, long) {
		t.Error("P3.1: Leaf of", len(long), "bytes")
	}
	for _, a := range noise(9) {
		for _, b := range append(noise(9), others(a)...) {
			if Node(a, b) != digestOf(31, string(a[:]), string(b[:])) || a != b && Node(a, b) == Node(b, a) {
				t.Errorf("P3.1: Node of %x and %x", a, b)
			}
		}
		if Leaf(string(a[:])+string(a[:])) == Node(a, a) {
			t.Error("P3.1: a leaf and a node have the same digest")
		}
	}
}

// TestRootExamples has roots that were computed with another program, of the leaves "0", "1", "2"...
func TestRootExamples(t *testing.T) {
	var l []api.Digest
	for n, want := range []string{
		"36a9e7f1c95b82ffb99743e0c5c4ce95", "fe96ab6191961032e5dd5cf342d67650", "4f47836dfa75dc618b78b988d08eb104",
		"ff3879712c846e146aa17a68f9345bcd", "248aeb4b82e560de93e961ab344d18e2", "4fd76c0bf4847c871cd21b7c0e7f9429",
		"7df6ddde5f6d8c431eb10e69051dc7c4", "5fe7350edf001c61b81139f47d428fa0", "53cf4d991a44a0068d1948b36bebe43d",
	} {
		if r := Root(l); hex.EncodeToString(r[:]) != want {
			t.Errorf("P3.1: Root of %d leaves: %x", n, r)
		}
		l = append(l, Leaf(strconv.Itoa(n)))
	}
}

func TestRoot(t *testing.T) {
	a, b, c := Leaf("a"), Leaf("b"), Leaf("c")
	if Root(nil) != hash.Of(32) || Root([]api.Digest{}) != hash.Of(32) || Root([]api.Digest{a}) != a || Root([]api.Digest{a, b}) != Node(a, b) {
		t.Error("P3.1: lists of no, one and two elements")
	}
	if Root([]api.Digest{a, b, c}) != Node(Node(a, b), c) {
		t.Error("P3.1, Examples: a list of three elements")
	}
	if Root([]api.Digest{{}}) != (api.Digest{}) || Root([]api.Digest{a, a, a}) != Node(Node(a, a), a) {
		t.Error("P3.1: a zero element; equal elements")
	}
	for _, n := range append(upTo(70), 127, 128, 129, 255, 256, 257, 511, 512, 513, 1000, 4097) {
		l := noise(n)
		old := slices.Clone(l)
		if Root(l) != wantRoot(l) {
			t.Fatal("P3.1: Root of", n, "elements")
		}
		if !slices.Equal(l, old) {
			t.Fatal("DOC.md, Memory: Root has modified a list of", n)
		}
	}
}

// TestRootDepends checks that the root tells each element, their order and their number.
func TestRootDepends(t *testing.T) {
	roots := map[api.Digest]int{}
	for n := range 130 {
		r := Root(list(n))
		if m, ok := roots[r]; ok {
			t.Fatal("P3.1: the same root of", m, "and of", n, "elements")
		}
		roots[r] = n
	}
	for n := 1; n < 40; n++ {
		l := list(n)
		r := Root(l)
		for i := range l {
			with := slices.Clone(l)
			with[i] = digestOf(32)
			if Root(with) == r {
				t.Fatal("P3.1: the root does not depend on the element", i, "of", n)
			}
			if i > 0 {
				with = slices.Clone(l)
				with[i-1], with[i] = with[i], with[i-1]
				if Root(with) == r {
					t.Fatal("P3.1: the root does not depend on the order of", i-1, "and", i, "of", n)
				}
			}
		}
	}
}

// TestZeroDigests checks that a digest of which all bytes are zero counts in a path as every other one does.
func TestZeroDigests(t *testing.T) {
	for n := 2; n <= 12; n++ {
		l := make([]api.Digest, n)
		root := wantRoot(l)
		for i := range l {
			for size, path := 0, wantInclusion(l, i); size <= len(path); size++ {
				if CheckInclusion(l[i], i, n, path[:size], root) != (size == len(path)) {
					t.Fatal("P3.2: the first", size, "digests for", i, "in a list of", n)
				}
			}
			for size, path := 0, wantConsistency(l, i, true); size <= len(path); size++ {
				if CheckConsistency(i, n, wantRoot(l[:i]), root, path[:size]) != (size == len(path)) {
					t.Fatal("P3.3: the first", size, "digests for", i, "of", n)
				}
			}
			s := newSparse(n, []int{i}, within(l))
			for size := range len(s.path) + 1 {
				if CheckMany(n, s.places, s.found, s.path[:size], root) != (size == len(s.path)) {
					t.Fatal("P3.4: the first", size, "digests for", i, "in a list of", n)
				}
			}
		}
	}
}

// TestExtremes calls all functions with numbers that are no sizes, positions or parts, with lists of all small lengths.
func TestExtremes(t *testing.T) {
	numbers := []int{math.MinInt, math.MinInt + 1, -api.MaxLeaves, -1, 0, 1, 2, 3, 4, api.MaxLeaves - 1, api.MaxLeaves, api.MaxLeaves + 1, 1 << 62, math.MaxInt - 1, math.MaxInt}
	valid := func(n int) bool { return n >= 0 && n <= api.MaxLeaves }
	for _, n := range numbers {
		for size := range 5 {
			l := list(size)
			if _, e := Inclusion(l, n); (e == api.OK) != (n >= 0 && n < size) {
				t.Error("P3.2: Inclusion", size, n, e)
			}
			if _, e := Consistency(l, n); (e == api.OK) != (n >= 0 && n <= size) {
				t.Error("P3.3: Consistency", size, n, e)
			}
			p := api.Peaks{Size: n, Tops: l}
			_, e := Append(p, api.Digest{})
			_, f := Top(p)
			if !valid(n) && (e != api.ErrArg || f != api.ErrArg) {
				t.Error("P3.5: peaks of", n, e, f)
			}
		}
		for _, m := range numbers {
			if _, e := Many(list(3), []int{m, n}); (e == api.OK) != (m >= 0 && m < n && n < 3) {
				t.Error("P3.4: Many", m, n, e)
			}
			for size := range 45 {
				l := list(size)
				if CheckInclusion(digestOf(32), m, n, l, digestOf(32)) && !(m == 0 && n == 1 && size == 0) {
					t.Error("P3.2: CheckInclusion", m, n, size)
				}
				if CheckConsistency(m, n, digestOf(32), digestOf(32), l) && !(m == 0 && valid(n) && size == 0) && !(m == n && valid(n) && size == 0) {
					t.Error("P3.3: CheckConsistency", m, n, size)
				}
				if CheckMany(n, []int{m}, []api.Digest{digestOf(32)}, l, digestOf(32)) && !(m == 0 && n == 1 && size == 0) {
					t.Error("P3.4: CheckMany", m, n, size)
				}
			}
		}
	}
}
