package rebuild_test

import (
	"math"
	"math/rand"
	"slices"
	"strings"
	"testing"

	"quietus/api"
	"quietus/gf"
	"quietus/rebuild"
)

// numbers are 0 to n - 1.
func numbers(n int) []int {
	var l []int
	for k := range n {
		l = append(l, k)
	}
	return l
}

// badRecipes are recipes that are not well-formed.
func badRecipes() []api.Recipe {
	bad := []api.Recipe{
		{}, {Piece: 3}, {Piece: 3, From: []int{}, Coef: []uint8{}}, {Piece: 3, Coef: []uint8{1}},
		{Piece: 3, From: []int{1, 2}}, {Piece: 3, From: []int{1, 2}, Coef: []uint8{1}}, {Piece: 3, From: []int{1, 2}, Coef: []uint8{1, 1, 1}}, {Piece: 3, From: []int{1}, Coef: []uint8{1, 0}},
		{Piece: 3, From: []int{1, 2}, Coef: []uint8{0, 1}}, {Piece: 3, From: []int{1, 2}, Coef: []uint8{1, 0}}, {Piece: 3, From: []int{1, 2, 4}, Coef: []uint8{1, 0, 1}}, {Piece: 3, From: []int{1}, Coef: []uint8{0}},
		{Piece: 3, From: []int{2, 1}, Coef: []uint8{1, 1}}, {Piece: 3, From: []int{1, 1}, Coef: []uint8{1, 1}}, {Piece: 3, From: []int{0, 0}, Coef: []uint8{1, 1}}, {Piece: 3, From: []int{1, 4, 2}, Coef: []uint8{1, 1, 1}},
		{Piece: 3, From: []int{3}, Coef: []uint8{1}}, {Piece: 3, From: []int{3, 4}, Coef: []uint8{1, 1}}, {Piece: 3, From: []int{1, 2, 3}, Coef: []uint8{1, 1, 1}}, {Piece: 0, From: []int{0, 1}, Coef: []uint8{1, 1}}, {Piece: 23, From: []int{0, 23}, Coef: []uint8{1, 1}},
		{Piece: 3, From: slices.Repeat([]int{1}, 1<<16), Coef: slices.Repeat([]uint8{1}, 1<<16)}, {Piece: 3, From: numbers(25), Coef: slices.Repeat([]uint8{1}, 25)},
	}
	for _, k := range []int{math.MinInt, -24, -1, 24, 25, 64, math.MaxInt} {
		bad = append(bad, api.Recipe{Piece: k, From: []int{1, 2}, Coef: []uint8{1, 1}}, api.Recipe{Piece: 3, From: []int{k}, Coef: []uint8{1}})
		pair := []int{2, k}
		slices.Sort(pair)
		bad = append(bad, api.Recipe{Piece: 3, From: pair, Coef: []uint8{1, 1}})
	}
	return bad
}

// goodRecipes are recipes that are well-formed, though they make nothing with any code.
func goodRecipes() []api.Recipe {
	return []api.Recipe{
		{Piece: 0, From: []int{1}, Coef: []uint8{1}}, {Piece: 1, From: []int{0}, Coef: []uint8{255}}, {Piece: 23, From: []int{0}, Coef: []uint8{2}}, {Piece: 0, From: []int{23}, Coef: []uint8{128}}, {Piece: 5, From: []int{4, 6}, Coef: []uint8{7, 7}},
		{Piece: 23, From: numbers(23), Coef: slices.Repeat([]uint8{9}, 23)}, {Piece: 0, From: numbers(24)[1:], Coef: slices.Repeat([]uint8{1}, 23)}, {Piece: 11, From: slices.Delete(numbers(24), 11, 12), Coef: slices.Repeat([]uint8{3}, 23)},
	}
}

func TestCheck(t *testing.T) {
	for _, r := range badRecipes() {
		if e := rebuild.Check(r); e != api.ErrArg {
			t.Error("P8.5: Check of", r.Piece, r.From[:min(len(r.From), 30)], r.Coef[:min(len(r.Coef), 30)], e)
		}
		for n := range 4 {
			if s, e := rebuild.Apply(r, slices.Repeat([]string{"ab"}, n)); s != "" || e != api.ErrArg {
				t.Errorf("P8.5: Apply of a recipe of %d pieces that is not well-formed to %d parts: %q %d", len(r.From), n, s, e)
			}
		}
		if s, e := rebuild.Apply(r, slices.Repeat([]string{"ab"}, len(r.From))); s != "" || e != api.ErrArg {
			t.Errorf("P8.5: Apply of a recipe of %d pieces that is not well-formed: %q %d", len(r.From), s, e)
		}
	}
	for _, r := range goodRecipes() {
		if e := rebuild.Check(r); e != api.OK {
			t.Error("P8.5: Check of", r, e)
		}
	}
}

// TestCheckOfManyRecipes compares Check with the words of P8.5.
func TestCheckOfManyRecipes(t *testing.T) {
	r := rand.New(rand.NewSource(6))
	seen := map[api.Errno]int{}
	for range 50000 {
		x := api.Recipe{Piece: r.Intn(28) - 2}
		for at := r.Intn(8) - 1; at < 25 && len(x.From) < 5; at += r.Intn(9) {
			x.From = append(x.From, at)
			x.Coef = append(x.Coef, uint8(1+r.Intn(255)))
		}
		switch r.Intn(8) {
		case 0:
			x.Coef[r.Intn(len(x.Coef))] = 0
		case 1:
			x.Coef = x.Coef[1:]
		case 2:
			x.Coef = append(x.Coef, 1)
		case 3:
			x.Piece = x.From[r.Intn(len(x.From))]
		}
		out := func(k int) bool { return k < 0 || k >= api.MaxPieces }
		want := api.OK
		if out(x.Piece) || len(x.From) == 0 || !slices.IsSorted(x.From) || len(slices.Compact(slices.Clone(x.From))) < len(x.From) || slices.ContainsFunc(x.From, out) || slices.Contains(x.From, x.Piece) || len(x.Coef) != len(x.From) || slices.Contains(x.Coef, 0) {
			want = api.ErrArg
		}
		seen[want]++
		if e := rebuild.Check(x); e != want {
			t.Fatal("P8.5: Check of", x, e)
		}
	}
	if seen[api.OK] < 5000 || seen[api.ErrArg] < 5000 {
		t.Error("too few cases:", seen)
	}
}

func TestApply(t *testing.T) {
	r := api.Recipe{Piece: 9, From: []int{0, 4, 20}, Coef: []uint8{1, 2, 255}}
	long := strings.Repeat("a", 2*api.MaxChunk)
	for _, x := range []struct {
		name  string
		parts []string
		want  string
		e     api.Errno
	}{
		{"three parts", []string{"\x05\x06", "\x80\x01", "\x00\x01"}, "\x18\xfb", api.OK},
		{"empty parts", []string{"", "", ""}, "", api.OK},
		{"parts of zeros", []string{"\x00", "\x00", "\x00"}, "\x00", api.OK},
		{"parts that are longer than a chunk", []string{long, "\x00" + long[1:], "\x00" + long[1:]}, "a" + strings.Repeat(string([]byte{gf.Mul(1^2^255, 'a')}), len(long)-1), api.OK},
		{"no parts", nil, "", api.ErrArg},
		{"two parts", []string{"ab", "cd"}, "", api.ErrArg},
		{"four parts", []string{"ab", "cd", "ef", "gh"}, "", api.ErrArg},
		{"four empty parts", []string{"", "", "", ""}, "", api.ErrArg},
		{"a part that is shorter", []string{"ab", "c", "de"}, "", api.ErrArg},
		{"a part that is longer", []string{"ab", "cd", "efg"}, "", api.ErrArg},
		{"a part that is empty", []string{"", "ab", "cd"}, "", api.ErrArg},
		{"a part that is not", []string{"", "", "c"}, "", api.ErrArg},
	} {
		if s, e := rebuild.Apply(r, x.parts); s != x.want || e != x.e {
			t.Errorf("P8.5: Apply to %s: %.20q %d", x.name, s, e)
		}
	}
}

// TestApplyOfManyRecipes computes each byte on its own.
func TestApplyOfManyRecipes(t *testing.T) {
	r := rand.New(rand.NewSource(7))
	for range 300 {
		for _, x := range goodRecipes() {
			n := r.Intn(20)
			var parts []string
			for range x.From {
				parts = append(parts, noise(r, n))
			}
			want := make([]byte, n)
			for i := range want {
				for k, by := range x.Coef {
					want[i] ^= gf.Mul(by, parts[k][i])
				}
			}
			if s, e := rebuild.Apply(x, parts); s != string(want) || e != api.OK {
				t.Fatalf("P8.5: Apply of %v to %q: %q %d", x, parts, s, e)
			}
		}
	}
}
