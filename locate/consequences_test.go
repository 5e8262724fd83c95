package locate_test

import (
	"math/rand"
	"slices"
	"testing"

	"quietus/api"
	"quietus/code"
	"quietus/locate"
)

// holds calls Detects or Corrects, which must not have an error.
func holds(t *testing.T, ask func(api.Code, int, int) (bool, api.Errno), c api.Code, mask, wrong int) bool {
	t.Helper()
	ok, e := ask(c, mask, wrong)
	if e != api.OK {
		t.Fatalf("P9.1: with %v of %b and %d wrong ones: %d", c, mask, wrong, e)
	}
	return ok
}

// bigCode is a code of up to 24 pieces, often one that corrects errors.
func bigCode(r *rand.Rand) api.Code {
	c := anyCode(r, 1+r.Intn(api.MaxPieces))
	if r.Intn(2) == 0 {
		c = api.Code{Data: 1 + r.Intn(api.MaxData), Globals: 2 + r.Intn(3)}
		if many := r.Intn(min(c.Data, 4) + 1); many > 0 {
			c.Groups = groupsOf(r, c.Data, many, 0)
		}
	}
	return c
}

// length is the length of a chunk: of at least a byte, most times a few ones.
func length(r *rand.Rand) int {
	switch r.Intn(20) {
	case 0:
		return api.MaxChunk - r.Intn(3)
	case 1:
		return 1 + r.Intn(api.MaxChunk)
	}
	return 1 + r.Intn(50)
}

// TestErrorsAreFound replaces pieces of chunks: Locate finds the chunk, and those that were replaced.
func TestErrorsAreFound(t *testing.T) {
	r := rand.New(rand.NewSource(11))
	found := [3]int{}
	for range 3000 {
		c := bigCode(r)
		n, mask := length(r), anySet(r, c, 2)
		wrong := r.Intn(api.MaxWrong/2 + 1)
		if !holds(t, locate.Corrects, c, mask, wrong) {
			continue
		}
		chunk, many := noise(r, n), r.Intn(wrong+1)
		pieces, bad := replaced(r, encoded(t, c, chunk), mask, many)
		got, set, e := locate.Locate(c, n, mask, only(r, pieces, mask), wrong)
		if got != chunk || set != bad || e != api.OK {
			t.Fatalf("P9.5: Locate with %v of %b, replaced: %b, and %d wrong ones: %q %b %d, and not %q", c, mask, bad, wrong, got, set, e, chunk)
		}
		found[many]++
	}
	if found[0] < 200 || found[1] < 200 || found[2] < 50 {
		t.Error("too few cases:", found)
	}
}

// TestOthersAreReplaced replaces pieces that are not given, too: Locate does not name them.
func TestOthersAreReplaced(t *testing.T) {
	c, chunk := api.Code{Data: 3, Globals: 4}, "\x01\x02\x03\x04"
	pieces := encoded(t, c, chunk)
	for a := range 7 {
		for b := range 7 {
			others := slices.Clone(pieces)
			others[a], others[b] = "\xffa", "\xffb"
			if got, set, e := locate.Locate(c, 4, 127&^(1<<a), others, 1); a != b && (got != chunk || set != 1<<b || e != api.OK) {
				t.Errorf("P9.5: Locate without the piece %d, replaced: %d: %q %d %d", a, b, got, set, e)
			}
		}
	}
}

// TestErrorsAreNoticed replaces pieces of chunks: the others do not fit, and Decode has an error.
func TestErrorsAreNoticed(t *testing.T) {
	r := rand.New(rand.NewSource(12))
	noticed := [api.MaxWrong + 1]int{}
	for range 3000 {
		c := bigCode(r)
		n, mask := length(r), anySet(r, c, 2)
		wrong := 1 + r.Intn(api.MaxWrong)
		if !holds(t, locate.Detects, c, mask, wrong) {
			continue
		}
		many := 1 + r.Intn(wrong)
		pieces, bad := replaced(r, encoded(t, c, noise(r, n)), mask, many)
		if ok, e := locate.Fits(c, n, mask, only(r, pieces, mask)); ok || e != api.OK {
			t.Fatalf("P9.6: Fits with %v of %b, replaced: %b: %t %d", c, mask, bad, ok, e)
		}
		if s, e := code.Decode(c, n, mask, pieces); s != "" || e != api.ErrCorrupt {
			t.Fatalf("P9.6: Decode with %v of %b, replaced: %b: %q %d", c, mask, bad, s, e)
		}
		noticed[many]++
	}
	for many := 1; many <= api.MaxWrong; many++ {
		if noticed[many] < 30 {
			t.Error("too few cases:", noticed)
		}
	}
}

// TestClashes checks what a clash is: it has a piece that was replaced, and at most one piece more than there are data pieces; without any of its pieces it fits.
func TestClashes(t *testing.T) {
	r := rand.New(rand.NewSource(13))
	found, none := 0, 0
	for range 2500 {
		c := anyCode(r, 2+r.Intn(api.MaxClash-1))
		n, mask := length(r), anySet(r, c, 2)
		pieces, bad := replaced(r, encoded(t, c, noise(r, n)), mask, r.Intn(4))
		set, e := locate.Clash(c, n, mask, only(r, pieces, mask))
		if ok, f := locate.Fits(c, n, mask, pieces); ok != (e == api.ErrNone) || f != api.OK {
			t.Fatalf("P9.4: Clash with %v of %b: %b %d, and Fits: %t %d", c, mask, set, e, ok, f)
		}
		if e == api.ErrNone {
			none++
			continue
		}
		found++
		if e != api.OK || set&^mask != 0 || set&bad == 0 || count(set) > c.Data+1 {
			t.Fatalf("P9.7: Clash with %v of %b, replaced: %b: %b %d", c, mask, bad, set, e)
		}
		if ok, _ := locate.Fits(c, n, set, pieces); ok {
			t.Fatalf("P9.7: Fits with %v of the clash %b", c, set)
		}
		for k := range code.Pieces(c) {
			if ok, _ := locate.Fits(c, n, set&^(1<<k), pieces); has(set, k) && !ok {
				t.Fatalf("P9.7: Fits with %v of the clash %b without the piece %d", c, set, k)
			}
		}
	}
	if found < 500 || none < 500 {
		t.Error("too few cases:", found, none)
	}
}

// TestPiecesOfChunks checks that pieces of a chunk fit, and all its pieces do.
func TestPiecesOfChunks(t *testing.T) {
	r := rand.New(rand.NewSource(14))
	for range 3000 {
		c := bigCode(r)
		n, mask := length(r), anySet(r, c, r.Intn(20))
		chunk := noise(r, n)
		pieces := encoded(t, c, chunk)
		for _, set := range []int{mask, all(c)} {
			if ok, e := locate.Fits(c, n, set, only(r, pieces, set)); !ok || e != api.OK {
				t.Fatalf("P9.7: Fits with %v of %b: %t %d", c, set, ok, e)
			}
			want := api.ErrNone
			if count(set) > api.MaxClash {
				want = api.ErrLimit
			}
			if clash, e := locate.Clash(c, n, set, pieces); clash != 0 || e != want {
				t.Fatalf("P9.7: Clash with %v of %b: %b %d", c, set, clash, e)
			}
		}
		got, bad, e := locate.Locate(c, n, mask, pieces, 0)
		if code.Recoverable(c, mask) != (got == chunk && bad == 0 && e == api.OK) || !code.Recoverable(c, mask) && e != api.ErrState {
			t.Fatalf("P9.5: Locate with %v of %b: %q %b %d", c, mask, got, bad, e)
		}
	}
}

// TestMorePieces gives more pieces, and asks for fewer errors: Detects and Corrects stay true, and Corrects is Detects for twice as many.
func TestMorePieces(t *testing.T) {
	r := rand.New(rand.NewSource(15))
	kept, twice := 0, [2]int{}
	for range 500 {
		c := bigCode(r)
		mask := anySet(r, c, 4)
		more := mask | r.Intn(all(c)+1)
		for wrong := range api.MaxWrong + 1 {
			if !holds(t, locate.Detects, c, mask, wrong) {
				break
			}
			kept++
			if !holds(t, locate.Detects, c, more, wrong) || !holds(t, locate.Detects, c, mask, r.Intn(wrong+1)) {
				t.Fatalf("P9.8: Detects with %v of %b and %b, %d wrong ones", c, mask, more, wrong)
			}
		}
		for wrong := range api.MaxWrong/2 + 1 {
			ok := holds(t, locate.Corrects, c, mask, wrong)
			if ok != holds(t, locate.Detects, c, mask, 2*wrong) {
				t.Fatalf("P9.8: Corrects with %v of %b, %d wrong ones, and Detects", c, mask, wrong)
			}
			if ok && (!holds(t, locate.Corrects, c, more, wrong) || !holds(t, locate.Corrects, c, mask, r.Intn(wrong+1))) {
				t.Fatalf("P9.8: Corrects with %v of %b and %b, %d wrong ones", c, mask, more, wrong)
			}
			if ok {
				twice[1]++
			} else {
				twice[0]++
			}
		}
	}
	if kept < 400 || twice[0] < 200 || twice[1] < 200 {
		t.Error("too few cases:", kept, twice)
	}
}

// TestDistance leaves fewer pieces out than code.Distance: Detects is true for one error less than the difference; for as many errors as Distance, of all pieces, it is not.
func TestDistance(t *testing.T) {
	r := rand.New(rand.NewSource(16))
	cases := 0
	for k := range 200 {
		c := bigCode(r)
		if k == 0 {
			c = example()
		}
		distance, e := code.Distance(c)
		if e != api.OK {
			t.Fatal("Distance of", c, e)
		}
		for range 10 {
			mask := anySet(r, c, distance)
			out := count(all(c) &^ mask)
			if wrong := distance - out - 1; out < distance && wrong <= api.MaxWrong {
				cases++
				if !holds(t, locate.Detects, c, mask, wrong) {
					t.Fatalf("P9.8: Detects with %v and the distance %d of %b, %d wrong ones", c, distance, mask, wrong)
				}
			}
		}
		if distance <= api.MaxWrong && holds(t, locate.Detects, c, all(c), distance) {
			t.Fatalf("P9.8: Detects with %v of all pieces, and as many wrong ones as the distance %d", c, distance)
		}
	}
	if cases < 500 {
		t.Error("too few cases:", cases)
	}
}

// roomy is a code in new memory, whose lists have room behind them.
func roomy(c api.Code) api.Code {
	groups := make([][]int, len(c.Groups), len(c.Groups)+3)
	for g, group := range c.Groups {
		groups[g] = append(make([]int, 0, len(group)+3), group...)
	}
	return api.Code{Data: c.Data, Groups: groups, Globals: c.Globals}
}

// equal says whether two codes are the same, with what is behind their lists.
func equal(a, b api.Code) bool {
	return a.Data == b.Data && a.Globals == b.Globals && slices.EqualFunc(a.Groups[:cap(a.Groups)], b.Groups[:cap(b.Groups)], func(x, y []int) bool { return slices.Equal(x[:cap(x)], y[:cap(y)]) })
}

// TestMemory checks that arguments are not modified, and that the functions are pure.
func TestMemory(t *testing.T) {
	r := rand.New(rand.NewSource(17))
	for _, c := range append(smallCodes(r), api.Code{Data: 4, Groups: [][]int{{3, 1}}}) {
		mine := roomy(c)
		n := 9
		list := make([]string, max(code.Pieces(c), 1), 30)
		for k := range list {
			list[k] = noise(r, code.Size(c, n))
		}
		list[:30][len(list)] = "behind"
		before := slices.Clone(list[:30])
		for range 5 {
			mask, wrong := r.Intn(1<<len(list)), r.Intn(3)
			s1, bad1, e1 := locate.Locate(c, n, mask, list, wrong)
			set1, f1 := locate.Clash(c, n, mask, list)
			errors1 := asks(t, mine, n, mask, list, wrong)
			s2, bad2, e2 := locate.Locate(mine, n, mask, list, wrong)
			set2, f2 := locate.Clash(mine, n, mask, list)
			errors2 := asks(t, mine, n, mask, list, wrong)
			if s1 != s2 || bad1 != bad2 || e1 != e2 || set1 != set2 || f1 != f2 || errors1 != errors2 {
				t.Error("chapter 9: a function is not pure:", c, mask, wrong)
			}
			if !equal(mine, roomy(c)) || !slices.Equal(list[:30], before) {
				t.Fatal("DOC.md, Memory: an argument was modified:", c, mine, list)
			}
		}
	}
}
