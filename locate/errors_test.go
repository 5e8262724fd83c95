package locate_test

import (
	"math"
	"math/rand"
	"slices"
	"strings"
	"testing"

	"quietus/api"
	"quietus/code"
	"quietus/locate"
)

// asks calls Detects, Corrects, Locate, Fits and Clash, and returns their errors; together with an error all other results have to be zero.
func asks(t *testing.T, c api.Code, n, mask int, pieces []string, wrong int) [5]api.Errno {
	t.Helper()
	detects, e1 := locate.Detects(c, mask, wrong)
	corrects, e2 := locate.Corrects(c, mask, wrong)
	chunk, bad, e3 := locate.Locate(c, n, mask, pieces, wrong)
	fits, e4 := locate.Fits(c, n, mask, pieces)
	clash, e5 := locate.Clash(c, n, mask, pieces)
	if e1 != api.OK && detects || e2 != api.OK && corrects || e3 != api.OK && (chunk != "" || bad != 0) || e4 != api.OK && fits || e5 != api.OK && clash != 0 {
		t.Error("chapter 9: results together with an error, with", c, n, mask, pieces, wrong, detects, e1, corrects, e2, chunk, bad, e3, fits, e4, clash, e5)
	}
	return [5]api.Errno{e1, e2, e3, e4, e5}
}

// same are five times the same error.
func same(e api.Errno) [5]api.Errno { return [5]api.Errno{e, e, e, e, e} }

// TestCodes checks that the first error is that of the code.
func TestCodes(t *testing.T) {
	for _, x := range []struct {
		c    api.Code
		want api.Errno
	}{
		{api.Code{}, api.ErrRange},
		{api.Code{Data: 17}, api.ErrRange},
		{api.Code{Data: math.MinInt}, api.ErrRange},
		{api.Code{Data: 4, Globals: 5}, api.ErrRange},
		{api.Code{Data: 16, Groups: make([][]int, 9)}, api.ErrLimit},
		{api.Code{Data: 4, Groups: [][]int{{}}}, api.ErrNone},
		{api.Code{Data: 4, Groups: [][]int{{1, 0}}}, api.ErrArg},
		{api.Code{Data: 4, Groups: [][]int{{0}, {0}}}, api.ErrArg},
	} {
		for _, n := range []int{math.MinInt, -1, 0, 1, 4097} {
			for _, mask := range []int{-1, 0, 1, 1 << 24} {
				for _, wrong := range []int{-1, 0, 5} {
					for many := range 7 {
						if got := asks(t, x.c, n, mask, make([]string, many), wrong); got != same(x.want) {
							t.Fatal("chapter 9: the errors with", x.c, n, mask, many, wrong, got)
						}
					}
				}
			}
		}
	}
}

// TestArguments checks which arguments are right, and that numbers of errors are looked at behind them.
func TestArguments(t *testing.T) {
	for _, c := range []api.Code{example(), {Data: 1}, {Data: 3, Globals: 4}, greatest()} {
		many := code.Pieces(c)
		for _, mask := range []int{math.MinInt, -1 << many, -2, -1, 0, 1, 1<<many - 1, 1 << many, 1<<many + 1, 1 << 24, 1 << 32, 1 << 62, math.MaxInt} {
			isSet := mask >= 0 && mask < 1<<many
			for _, wrong := range []int{math.MinInt, -1, 0, 1, 2, 3, 4, 5, 1 << 32, 1 << 62, math.MaxInt} {
				for _, x := range []struct {
					n, entries, size int
					right            bool
				}{
					{9, many, code.Size(c, 9), true},
					{0, many, 0, true},
					{4096, many, code.Size(c, 4096), true},
					{4097, many, code.Size(c, 4096), false},
					{math.MaxInt, many, 0, false},
					{-1, many, 0, false},
					{math.MinInt, many, 0, false},
					{9, many - 1, code.Size(c, 9), false},
					{9, many + 1, code.Size(c, 9), false},
					{9, 0, 0, false},
				} {
					pieces := slices.Repeat([]string{strings.Repeat("\x00", x.size)}, x.entries)
					got := asks(t, c, x.n, mask, pieces, wrong)
					for k, limit := range []int{api.MaxWrong, api.MaxWrong / 2, api.MaxWrong / 2, math.MaxInt, math.MaxInt} {
						want := api.OK
						switch {
						case !isSet || k > 1 && !x.right:
							want = api.ErrArg
						case k < 3 && (wrong < 0 || wrong > limit):
							want = api.ErrRange
						}
						if (want != api.OK || got[k] == api.ErrArg || got[k] == api.ErrRange) && got[k] != want {
							t.Fatal("chapter 9: the errors with", c, x, mask, wrong, got)
						}
					}
				}
			}
		}
	}
}

// TestSizes gives one piece another size: it matters only if the piece is given.
func TestSizes(t *testing.T) {
	c := example()
	for k := range 7 {
		for size := range 5 {
			pieces := with(t, map[int]string{k: strings.Repeat("a", size)})
			for mask := range 128 {
				got := asks(t, c, 7, mask, pieces, 0)
				wrong := has(mask, k) && size != 2
				if got[0] != api.OK || got[1] != api.OK || (got[2] == api.ErrArg) != wrong || (got[3] == api.ErrArg) != wrong || (got[4] == api.ErrArg) != wrong {
					t.Fatalf("chapter 9: the errors with a piece %d of %d bytes of %b: %d", k, size, mask, got)
				}
			}
		}
	}
}

// TestNotLookedAt gives other bytes for pieces that are not given: nothing changes.
func TestNotLookedAt(t *testing.T) {
	r := rand.New(rand.NewSource(21))
	for range 3000 {
		c := anyCode(r, 1+r.Intn(9))
		n, mask, wrong := 1+r.Intn(20), anySet(r, c, 3), r.Intn(3)
		pieces, _ := replaced(r, encoded(t, c, noise(r, n)), all(c), r.Intn(3))
		others := only(r, pieces, mask)
		s1, bad1, e1 := locate.Locate(c, n, mask, pieces, wrong)
		s2, bad2, e2 := locate.Locate(c, n, mask, others, wrong)
		ok1, _ := locate.Fits(c, n, mask, pieces)
		ok2, _ := locate.Fits(c, n, mask, others)
		set1, f1 := locate.Clash(c, n, mask, pieces)
		set2, f2 := locate.Clash(c, n, mask, others)
		if s1 != s2 || bad1 != bad2 || e1 != e2 || ok1 != ok2 || set1 != set2 || f1 != f2 {
			t.Fatalf("chapter 9: pieces that are not given, with %v %d %b of %q and %q: %q %q, %d %d, %d %d, %t %t, %d %d, %d %d", c, n, mask, pieces, others, s1, s2, bad1, bad2, e1, e2, ok1, ok2, set1, set2, f1, f2)
		}
	}
}

// TestOrder checks which error comes first, where several apply.
func TestOrder(t *testing.T) {
	c := api.Code{Data: 12, Globals: 1} // 13 pieces, without any of which the rest suffices
	zero, other := slices.Repeat([]string{"\x00"}, 13), slices.Repeat([]string{"\x00"}, 13)
	other[12] = "\x01"
	for _, x := range []struct {
		name   string
		mask   int
		pieces []string
		wrong  int
		e      api.Errno // of Locate
		f      api.Errno // of Clash
	}{
		{"13 pieces that fit", 1<<13 - 1, zero, 0, api.OK, api.ErrLimit},
		{"13 pieces that do not fit", 1<<13 - 1, other, 0, api.ErrLost, api.ErrLimit},
		{"13 pieces, too few for an error", 1<<13 - 1, other, 1, api.ErrState, api.ErrLimit},
		{"12 pieces that fit", 1<<12 - 1, other, 0, api.OK, api.ErrNone},
		{"12 pieces, too few for an error", 1<<12 - 1, other, 1, api.ErrState, api.ErrNone},
		{"11 pieces that fit", 1<<11 - 1, other, 0, api.ErrState, api.ErrNone},
		{"no pieces", 0, other, 0, api.ErrState, api.ErrNone},
		{"no pieces, and two errors", 0, other, 2, api.ErrState, api.ErrNone},
	} {
		if _, _, e := locate.Locate(c, 12, x.mask, x.pieces, x.wrong); e != x.e {
			t.Error("P9.2: Locate of", x.name, e)
		}
		if _, f := locate.Clash(c, 12, x.mask, x.pieces); f != x.f {
			t.Error("P9.4: Clash of", x.name, f)
		}
	}
	short := append(slices.Clone(other[:12]), "\x01\x01")
	if got := asks(t, c, 12, 1<<13-1, short, 5); got != [5]api.Errno{api.ErrRange, api.ErrRange, api.ErrArg, api.ErrArg, api.ErrArg} {
		t.Error("chapter 9: the errors with a piece of two bytes, and five errors:", got)
	}
}

// TestAnyArguments calls all functions with any codes, numbers and pieces: none of them panics, and errors come without results.
func TestAnyArguments(t *testing.T) {
	r := rand.New(rand.NewSource(22))
	some := []int{math.MinInt, math.MinInt + 1, -7, -1, 0, 1, 2, 3, 4, 5, 7, 8, 15, 31, 63, 127, 1<<24 - 1, 1 << 24, 1<<32 - 1, 1 << 62, math.MaxInt}
	any := func() int { return some[r.Intn(len(some))] }
	for range 20000 {
		c := anyCode(r, 1+r.Intn(9))
		switch r.Intn(6) {
		case 0:
			c.Data = any()
		case 1:
			c.Globals = any()
		case 2:
			c.Groups = append(c.Groups, []int{any(), any()}[:r.Intn(3)])
		}
		pieces := make([]string, max(0, code.Pieces(c)+r.Intn(2)-r.Intn(2)))
		size := r.Intn(3)
		for k := range pieces {
			pieces[k] = noise(r, size)
		}
		asks(t, c, any(), any(), pieces, any())
		asks(t, c, size*max(c.Data%20, 0), anySet(r, api.Code{Data: 1 + r.Intn(9)}, 2), pieces, r.Intn(3))
	}
}
