package poly_test

import (
	"math"
	"math/rand"
	"slices"
	"testing"

	"quietus/api"
	"quietus/poly"
)

func TestInterpolateExamples(t *testing.T) {
	for _, x := range [][3][]uint8{
		{{0, 1, 2}, {1, 0, 9}, {1, 2, 3}},
		{nil, nil, nil},
		{{}, nil, nil},
		{{0}, {0}, nil},
		{{9}, {0}, nil},
		{{0}, {5}, {5}},
		{{255}, {5}, {5}},
		{{1, 2}, {0, 0}, nil},
		{{1, 2}, {7, 7}, {7}},
		{{2, 1}, {2, 1}, {0, 1}},
		{{0, 1}, {0, 1}, {0, 1}},
		{{1, 0}, {1, 0}, {0, 1}},
		{{0, 1}, {1, 0}, {1, 1}},
		{{2, 0, 1}, {9, 1, 0}, {1, 2, 3}},
		{{0, 1, 2, 3}, {1, 0, 9, 8}, {1, 2, 3}},
		{everywhere(), everywhere(), {0, 1}},
		{everywhere(), zeros(256), nil},
		{everywhere(), append([]uint8{1}, zeros(255)...), append([]uint8{1}, append(zeros(254), 1)...)},
	} {
		if p, e := poly.Interpolate(x[0], x[1]); !slices.Equal(p, x[2]) || e != api.OK {
			t.Errorf("P6.4: Interpolate of %d and %d: %d %d, not %d", x[0], x[1], p, e, x[2])
		}
	}
}

func TestInterpolate(t *testing.T) {
	r := rand.New(rand.NewSource(6))
	for n := range 257 {
		for range 3 {
			xs, ys := places(r, n), noise(r, n)
			p, e := poly.Interpolate(xs, ys)
			if e != api.OK || wantDegree(p) != len(p)-1 || len(p) > n || len(missed(p, xs, ys)) > 0 {
				t.Fatal("P6.4: Interpolate of", xs, ys, p, e, "misses", missed(p, xs, ys))
			}
		}
	}
	for range 3000 {
		n := r.Intn(10)
		xs, ys := places(r, n), noise(r, n)
		if p, e := poly.Interpolate(xs, ys); e != api.OK || !slices.Equal(p, wantInterpolate(xs, ys)) {
			t.Fatal("P6.4: Interpolate of", xs, ys, p, e, "and not", wantInterpolate(xs, ys))
		}
	}
	for x := range 256 {
		for y := range 256 {
			a, b := uint8(x), uint8(y)
			want := wantTrim([]uint8{b})
			if p, e := poly.Interpolate([]uint8{a}, []uint8{b}); e != api.OK || !slices.Equal(p, want) {
				t.Fatal("P6.4: Interpolate of one point:", a, b, p, e)
			}
		}
	}
}

// TestWrongPoints checks that points which are not right are the first error, whatever the degree and the number of wrong points are.
func TestWrongPoints(t *testing.T) {
	for name, x := range wrongPoints() {
		if p, e := poly.Interpolate(x[0], x[1]); len(p) > 0 || e != api.ErrArg {
			t.Error("P6.4: Interpolate:", name, p, e)
		}
		for _, degree := range []int{math.MinInt, -1, 0, 1, 2, 255, 256, math.MaxInt} {
			if p, e := poly.Through(x[0], x[1], degree); len(p) > 0 || e != api.ErrArg {
				t.Error("P6.5: Through:", name, degree, p, e)
			}
			for _, wrong := range []int{math.MinInt, -1, 0, 1, 2, 127, 300, math.MaxInt} {
				if p, at, e := poly.Decode(x[0], x[1], degree, wrong); len(p) > 0 || len(at) > 0 || e != api.ErrArg {
					t.Error("P6.6: Decode:", name, degree, wrong, p, at, e)
				}
			}
		}
	}
}

func TestThroughExamples(t *testing.T) {
	for _, x := range []struct {
		xs, ys []uint8
		degree int
		p      []uint8
		e      api.Errno
	}{
		{[]uint8{0, 1, 2}, []uint8{1, 0, 9}, 2, []uint8{1, 2, 3}, api.OK},
		{[]uint8{0, 1, 2}, []uint8{1, 0, 9}, 1, nil, api.ErrNone},
		{[]uint8{0, 1, 2}, []uint8{1, 0, 9}, 0, nil, api.ErrNone},
		{[]uint8{0, 1, 2}, []uint8{1, 0, 9}, 3, nil, api.ErrRange},
		{[]uint8{0, 1, 2}, []uint8{1, 0, 9}, -1, nil, api.ErrRange},
		{[]uint8{0, 1, 2, 3}, []uint8{1, 0, 9, 8}, 2, []uint8{1, 2, 3}, api.OK},
		{[]uint8{0, 1, 2, 3}, []uint8{1, 0, 9, 8}, 3, []uint8{1, 2, 3}, api.OK},
		{[]uint8{0, 1, 2, 3}, []uint8{1, 0, 9, 7}, 2, nil, api.ErrNone},
		{nil, nil, 0, nil, api.ErrRange},
		{nil, nil, -1, nil, api.ErrRange},
		{nil, nil, math.MaxInt, nil, api.ErrRange},
		{nil, nil, math.MinInt, nil, api.ErrRange},
		{[]uint8{7}, []uint8{5}, 0, []uint8{5}, api.OK},
		{[]uint8{7}, []uint8{0}, 0, nil, api.OK},
		{[]uint8{7}, []uint8{5}, 1, nil, api.ErrRange},
		{[]uint8{7}, []uint8{5}, math.MaxInt, nil, api.ErrRange},
		{[]uint8{7}, []uint8{0}, -1, nil, api.ErrRange},
		{[]uint8{7}, []uint8{5}, math.MinInt, nil, api.ErrRange},
		{[]uint8{7, 8}, []uint8{5, 5}, 0, []uint8{5}, api.OK},
		{[]uint8{7, 8}, []uint8{5, 5}, 1, []uint8{5}, api.OK},
		{[]uint8{7, 8}, []uint8{5, 5}, 2, nil, api.ErrRange},
		{[]uint8{7, 8}, []uint8{5, 6}, 0, nil, api.ErrNone},
		{[]uint8{7, 8}, []uint8{0, 0}, -1, nil, api.ErrRange},
		{everywhere(), everywhere(), 0, nil, api.ErrNone},
		{everywhere(), everywhere(), 1, []uint8{0, 1}, api.OK},
		{everywhere(), everywhere(), 255, []uint8{0, 1}, api.OK},
		{everywhere(), everywhere(), 256, nil, api.ErrRange},
	} {
		if p, e := poly.Through(x.xs, x.ys, x.degree); !slices.Equal(p, x.p) || e != x.e {
			t.Errorf("P6.5: Through %d and %d with the degree %d: %d %d, not %d %d", x.xs, x.ys, x.degree, p, e, x.p, x.e)
		}
	}
}

// TestThrough gives values of polynomials of any degree: all degrees are asked for.
func TestThrough(t *testing.T) {
	r := rand.New(rand.NewSource(7))
	for i := range 800 {
		n := 1 + r.Intn(20)
		if i%100 == 0 {
			n = 60
		}
		xs, p := places(r, n), exact(r, r.Intn(n+1)-1)
		ys := values(p, xs)
		for degree := -2; degree < n+3; degree++ {
			want, e := p, api.OK
			if degree < 0 || n < degree+1 {
				want, e = nil, api.ErrRange
			} else if degree < len(p)-1 {
				want, e = nil, api.ErrNone
			}
			if q, f := poly.Through(xs, ys, degree); !slices.Equal(q, want) || f != e {
				t.Fatalf("P6.5: Through %d and %d with the degree %d: %d %d, not %d %d", xs, ys, degree, q, f, want, e)
			}
		}
	}
	for degree := range 256 {
		p := exact(r, degree)
		ys := values(p, everywhere())
		if q, e := poly.Through(everywhere(), ys, degree); !slices.Equal(q, p) || e != api.OK {
			t.Fatal("P6.5: Through 256 points with the degree", degree, p, q, e)
		}
		if q, e := poly.Through(everywhere(), ys, degree-1); len(q) > 0 || e == api.OK {
			t.Fatal("P6.5: Through 256 points with a lower degree than", degree, p, q, e)
		}
	}
}

func TestDecodeExamples(t *testing.T) {
	six := []uint8{0, 1, 2, 3, 4, 5}
	values := []uint8{1, 0, 7, 8, 57, 56}
	right := []uint8{1, 0, 9, 8, 57, 56}
	for _, x := range []struct {
		xs, ys        []uint8
		degree, wrong int
		p             []uint8
		at            []int
		e             api.Errno
	}{
		{six, values, 2, 1, []uint8{1, 2, 3}, []int{2}, api.OK},
		{six, right, 2, 1, []uint8{1, 2, 3}, nil, api.OK},
		{six, right, 2, 0, []uint8{1, 2, 3}, nil, api.OK},
		{six, right, 3, 1, []uint8{1, 2, 3}, nil, api.OK},
		{six, right, 5, 0, []uint8{1, 2, 3}, nil, api.OK},
		{six, values, 3, 1, []uint8{1, 2, 3}, []int{2}, api.OK},
		{six, values, 2, 0, nil, nil, api.ErrLost},
		{six, values, 4, 0, nil, nil, api.ErrLost},
		{six, values, 1, 1, nil, nil, api.ErrLost},
		{six, values, 1, 2, nil, nil, api.ErrLost},
		{six, values, 0, 2, nil, nil, api.ErrLost},
		{[]uint8{5}, []uint8{9}, 0, 0, []uint8{9}, nil, api.OK},
		{[]uint8{5}, []uint8{0}, 0, 0, nil, nil, api.OK},
		{[]uint8{0, 1}, []uint8{9, 9}, 0, 0, []uint8{9}, nil, api.OK},
		{[]uint8{0, 1}, []uint8{9, 8}, 0, 0, nil, nil, api.ErrLost},
		{[]uint8{0, 1}, []uint8{9, 8}, 1, 0, []uint8{9, 1}, nil, api.OK},
		{[]uint8{0, 1, 2}, []uint8{9, 9, 8}, 0, 1, []uint8{9}, []int{2}, api.OK},
		{[]uint8{0, 1, 2}, []uint8{8, 9, 9}, 0, 1, []uint8{9}, []int{0}, api.OK},
		{[]uint8{0, 1, 2}, []uint8{0, 0, 8}, 0, 1, nil, []int{2}, api.OK},
		{[]uint8{0, 1, 2}, []uint8{0, 0, 0}, 0, 1, nil, nil, api.OK},
		{[]uint8{0, 1, 2}, []uint8{7, 8, 9}, 0, 1, nil, nil, api.ErrLost},
		{[]uint8{9, 7, 5, 3, 1}, []uint8{6, 4, 4, 4, 5}, 0, 2, []uint8{4}, []int{0, 4}, api.OK},
		{[]uint8{9, 7, 5, 3, 1}, []uint8{6, 4, 4, 4, 5}, 0, 1, nil, nil, api.ErrLost},
		{[]uint8{9, 7, 5, 3, 1}, []uint8{6, 4, 4, 5, 5}, 0, 2, nil, nil, api.ErrLost},
		{everywhere(), everywhere(), 1, 127, []uint8{0, 1}, nil, api.OK},
		{everywhere(), everywhere(), 0, 127, nil, nil, api.ErrLost},
	} {
		if p, at, e := poly.Decode(x.xs, x.ys, x.degree, x.wrong); !slices.Equal(p, x.p) || !slices.Equal(at, x.at) || e != x.e {
			t.Errorf("P6.6: Decode of %d and %d, degree %d, %d wrong: %d %d %d, not %d %d %d", x.xs, x.ys, x.degree, x.wrong, p, at, e, x.p, x.at, x.e)
		}
	}
}

// TestDecodeRange checks ErrRange for points of which all values are 0, so that nothing is lost: the numbers go up to those whose sum an int cannot hold.
func TestDecodeRange(t *testing.T) {
	numbers := []int{math.MinInt, math.MinInt + 1, math.MinInt / 2, -256, -2, -1, math.MaxInt, math.MaxInt - 1, math.MaxInt/2 - 1, math.MaxInt / 2, math.MaxInt/2 + 1, math.MaxInt/2 + 2, 1 << 32, 1 << 31, 511, 512}
	for n := range 261 {
		numbers = append(numbers, n)
	}
	for _, n := range []int{0, 1, 2, 3, 4, 5, 8, 255, 256} {
		for i, degree := range numbers {
			for k, wrong := range numbers {
				want := api.ErrRange
				if degree >= 0 && wrong >= 0 && degree < n && wrong < n && n >= degree+1+2*wrong {
					want = api.OK
				}
				if n > 8 && want == api.OK && n > degree+1+2*wrong && (i+k)%97 > 0 { // each of them takes its time
					continue
				}
				if p, at, e := poly.Decode(everywhere()[:n], zeros(n), degree, wrong); len(p) > 0 || len(at) > 0 || e != want {
					t.Fatal("P6.6: Decode of so many zeros:", n, "degree", degree, "wrong", wrong, p, at, e)
				}
			}
		}
	}
	for _, x := range [][2]int{{0, 3}, {1, 2}, {2, 2}, {3, 1}, {3, 2}, {4, 1}, {5, 1}, {5, 0}, {6, 0}, {-1, 0}, {-1, 1}, {0, -1}, {2, -1}, {1, math.MaxInt}} {
		if p, at, e := poly.Decode([]uint8{1, 2, 3, 4, 5}, []uint8{1, 1, 5, 1, 9}, x[0], x[1]); len(p) > 0 || len(at) > 0 || e != api.ErrRange {
			t.Error("P6.6: ErrRange comes before ErrLost:", x, p, at, e)
		}
	}
}

// TestDecodeAll decodes few points, and searches all polynomials that could be the result.
func TestDecodeAll(t *testing.T) {
	r := rand.New(rand.NewSource(8))
	found, lost := 0, 0
	for range 3000 {
		n := 1 + r.Intn(9)
		degree := r.Intn(n)
		xs, p := places(r, n), noise(r, degree+1)
		ys, _ := spoilt(r, values(p, xs), r.Intn(min(n, (n-degree-1)/2+2)+1))
		for wrong := range (n-degree-1)/2 + 1 {
			all := fitting(xs, ys, degree, wrong)
			q, at, e := poly.Decode(xs, ys, degree, wrong)
			if len(all) == 0 {
				lost++
				if len(q) > 0 || len(at) > 0 || e != api.ErrLost {
					t.Fatal("P6.6: Decode of", xs, ys, degree, wrong, q, at, e, "where nothing fits")
				}
				continue
			}
			found++
			if len(all) > 1 || e != api.OK || !slices.Equal(q, all[0]) || !slices.Equal(at, missed(q, xs, ys)) {
				t.Fatal("P6.6: Decode of", xs, ys, degree, wrong, q, at, e, "where these fit:", all)
			}
		}
	}
	if found < 1000 || lost < 1000 {
		t.Error("too few cases:", found, lost)
	}
}
