package merkle

import (
	"math"
	"slices"
	"testing"

	"quietus/api"
)

// wantPeaks returns the peaks of a list: the roots of its parts as its size's binary digits say.
func wantPeaks(l []api.Digest) api.Peaks {
	p := api.Peaks{Size: len(l)}
	for size := 1 << 20; size > 0; size /= 2 {
		if p.Size&size != 0 {
			p.Tops = append(p.Tops, wantRoot(l[:size]))
			l = l[size:]
		}
	}
	return p
}

func samePeaks(p, q api.Peaks) bool { return p.Size == q.Size && slices.Equal(p.Tops, q.Tops) }

func TestPeaksExamples(t *testing.T) {
	a, b, c := Leaf("a"), Leaf("b"), Leaf("c")
	p := api.Peaks{}
	for n, want := range [][]api.Digest{nil, {a}, {Node(a, b)}, {Node(a, b), c}} {
		if !samePeaks(p, api.Peaks{Size: n, Tops: want}) {
			t.Errorf("P3.5, Examples: peaks of %d: %v", n, p)
		}
		p, _ = Append(p, []api.Digest{a, b, c, a}[n])
	}
}

func TestPeaks(t *testing.T) {
	l := list(1100)
	p := api.Peaks{}
	for n := range l {
		if want := wantPeaks(l[:n]); !samePeaks(p, want) {
			t.Fatal("P3.5: peaks of", n, p, want)
		}
		if d, e := Top(p); e != api.OK || d != wantRoot(l[:n]) || d != Root(l[:n]) {
			t.Fatal("P3.5, P3.6: the root of", n)
		}
		q, e := Append(p, l[n])
		if e != api.OK {
			t.Fatal("P3.5: Append after", n, e)
		}
		p = q
	}
}

// TestPeaksStay checks that Append makes new memory: one list can be continued in several ways.
func TestPeaksStay(t *testing.T) {
	l := list(70)
	for n := range l {
		p := wantPeaks(l[:n])
		p.Tops = slices.Grow(p.Tops, 10)
		spare := p.Tops[len(p.Tops) : len(p.Tops)+1]
		old := wantPeaks(l[:n])
		q, _ := Append(p, l[n])
		r, _ := Append(p, digestOf(32))
		if _, e := Top(p); e != api.OK || !samePeaks(p, old) || spare[0] != (api.Digest{}) {
			t.Fatal("DOC.md, Memory: peaks of", n, "were modified")
		}
		if !samePeaks(q, wantPeaks(l[:n+1])) || !samePeaks(r, wantPeaks(append(slices.Clone(l[:n]), digestOf(32)))) {
			t.Fatal("P3.5: two lists that begin with the same", n)
		}
		for i := range q.Tops {
			q.Tops[i] = api.Digest{}
		}
		if !samePeaks(p, old) || !samePeaks(r, wantPeaks(append(slices.Clone(l[:n]), digestOf(32)))) {
			t.Fatal("P3.5: results share memory:", n)
		}
	}
}

func TestPeaksNotWellFormed(t *testing.T) {
	for _, x := range []struct{ size, tops int }{
		{0, 1}, {0, 2}, {1, 0}, {1, 2}, {2, 0}, {2, 2}, {3, 0}, {3, 1}, {3, 3}, {7, 2}, {7, 4}, {8, 0}, {8, 2}, {8, 3},
		{-1, 0}, {-1, 1}, {-1, 64}, {-2, 63}, {-8, 1}, {math.MinInt, 0}, {math.MinInt, 1}, {math.MaxInt, 63}, {math.MaxInt, 0},
		{api.MaxLeaves, 0}, {api.MaxLeaves, 2}, {api.MaxLeaves, 40}, {api.MaxLeaves - 1, 39}, {api.MaxLeaves - 1, 41}, {api.MaxLeaves - 1, 1},
		{api.MaxLeaves + 1, 2}, {api.MaxLeaves + 1, 1}, {api.MaxLeaves + 2, 2}, {2 * api.MaxLeaves, 1}, {2*api.MaxLeaves - 1, 41}, {-api.MaxLeaves, 24},
	} {
		p := api.Peaks{Size: x.size, Tops: noise(x.tops)}
		if q, e := Append(p, digestOf(32)); e != api.ErrArg || q.Size != 0 || len(q.Tops) != 0 {
			t.Error("P3.5: Append to", x, q, e)
		}
		if d, e := Top(p); e != api.ErrArg || d != (api.Digest{}) {
			t.Error("P3.5: Top of", x, d, e)
		}
	}
}

func TestGreatPeaks(t *testing.T) {
	tops := noise(40)
	for _, l := range [][]api.Digest{tops, make([]api.Digest, 40)} {
		p, e := Append(api.Peaks{Size: api.MaxLeaves - 1, Tops: l}, l[5])
		want := l[5]
		for i := 39; i >= 0; i-- {
			want = wantNode(l[i], want)
		}
		if e != api.OK || !samePeaks(p, api.Peaks{Size: api.MaxLeaves, Tops: []api.Digest{want}}) {
			t.Error("P3.5: the last element:", p, e)
		}
		if d, e := Top(p); d != want || e != api.OK {
			t.Error("P3.5: Top of the greatest list:", d, e)
		}
		if q, e := Append(p, l[0]); e != api.ErrLimit || q.Size != 0 || len(q.Tops) != 0 {
			t.Error("P3.5: one more element than the greatest list has:", q, e)
		}
		if d, e := Top(api.Peaks{Size: api.MaxLeaves - 1, Tops: l}); e != api.OK || d != folded(l) {
			t.Error("P3.5: Top of the greatest list but one:", d, e)
		}
	}
	p, e := Append(api.Peaks{Size: api.MaxLeaves - 2, Tops: tops[:39]}, tops[39])
	if e != api.OK || !samePeaks(p, api.Peaks{Size: api.MaxLeaves - 1, Tops: tops}) {
		t.Error("P3.5: Append to the greatest list but two:", p, e)
	}
	p, e = Append(api.Peaks{Size: api.MaxLeaves / 2, Tops: tops[:1]}, tops[1])
	if e != api.OK || !samePeaks(p, api.Peaks{Size: api.MaxLeaves/2 + 1, Tops: tops[:2]}) {
		t.Error("P3.5: Append to half of the greatest list:", p, e)
	}
	if d, e := Top(p); e != api.OK || d != wantNode(tops[0], tops[1]) {
		t.Error("P3.5: Top of two parts:", d, e)
	}
}

// folded returns the root of parts with these roots, from right to left.
func folded(l []api.Digest) api.Digest {
	d := l[len(l)-1]
	for i := len(l) - 2; i >= 0; i-- {
		d = wantNode(l[i], d)
	}
	return d
}
