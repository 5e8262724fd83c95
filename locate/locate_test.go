package locate_test

import (
	"math/rand"
	"slices"
	"testing"

	"quietus/api"
	"quietus/code"
	"quietus/locate"
)

// with are the pieces of the chunk 1 2 3 4 5 6 7 with some others.
func with(t testing.TB, others map[int]string) []string {
	t.Helper()
	pieces := encoded(t, example(), "\x01\x02\x03\x04\x05\x06\x07")
	for k, piece := range others {
		pieces[k] = piece
	}
	return pieces
}

func TestExamples(t *testing.T) {
	c := example()
	for _, x := range []struct {
		mask, wrong int
		want        bool
	}{{127, 2, true}, {127, 3, false}} {
		if ok, e := locate.Detects(c, x.mask, x.wrong); ok != x.want || e != api.OK {
			t.Error("P9.1: Detects of", x.mask, x.wrong, ok, e)
		}
	}
	for _, x := range []struct {
		mask, wrong int
		want        bool
	}{{127, 1, true}, {63, 1, false}} {
		if ok, e := locate.Corrects(c, x.mask, x.wrong); ok != x.want || e != api.OK {
			t.Error("P9.1: Corrects of", x.mask, x.wrong, ok, e)
		}
	}
	if s, bad, e := locate.Locate(c, 7, 127, with(t, map[int]string{2: "\x09\x09"}), 1); s != "\x01\x02\x03\x04\x05\x06\x07" || bad != 4 || e != api.OK {
		t.Errorf("P9.2: Locate with another piece 2: %q %d %d", s, bad, e)
	}
	if s, bad, e := locate.Locate(c, 7, 127, with(t, map[int]string{2: "\x09\x09", 3: "\x09\x09"}), 1); s != "" || bad != 0 || e != api.ErrLost {
		t.Errorf("P9.2: Locate with other pieces 2 and 3: %q %d %d", s, bad, e)
	}
	if ok, e := locate.Fits(c, 7, 19, with(t, nil)); !ok || e != api.OK {
		t.Error("P9.3: Fits of the pieces 0, 1, 4", ok, e)
	}
	other := with(t, map[int]string{4: "\x02\x07"})
	if ok, e := locate.Fits(c, 7, 19, other); ok || e != api.OK {
		t.Error("P9.3: Fits with another piece 4", ok, e)
	}
	if set, e := locate.Clash(c, 7, 127, other); set != 19 || e != api.OK {
		t.Error("P9.4: Clash with another piece 4", set, e)
	}
	if set, e := locate.Clash(c, 7, 127, with(t, map[int]string{6: "\x00\x00"})); set != 79 || e != api.OK {
		t.Error("P9.4: Clash with another piece 6", set, e)
	}
}

// TestAllSets compares Detects and Corrects with a look at the ranks of all sets.
func TestAllSets(t *testing.T) {
	r := rand.New(rand.NewSource(1))
	var seen [api.MaxWrong + 1][2]int
	for _, c := range smallCodes(r) {
		ranks := ranks(t, c)
		for mask := range ranks {
			for wrong := range api.MaxWrong + 1 {
				want := wantSpares(c, ranks, mask, wrong)
				if ok, e := locate.Detects(c, mask, wrong); ok != want || e != api.OK {
					t.Fatalf("P9.1: Detects with %v of %b and %d wrong ones: %t %d", c, mask, wrong, ok, e)
				}
				if want {
					seen[wrong][1]++
				} else {
					seen[wrong][0]++
				}
				if wrong%2 == 1 {
					continue
				}
				if ok, e := locate.Corrects(c, mask, wrong/2); ok != want || e != api.OK {
					t.Fatalf("P9.1: Corrects with %v of %b and %d wrong ones: %t %d", c, mask, wrong/2, ok, e)
				}
			}
		}
	}
	for wrong, n := range seen {
		if n[0] < 100 || n[1] < 5 {
			t.Error("too few cases:", wrong, seen)
		}
	}
}

// takes says whether Recoverable holds for what is left of a set when pieces from one on are taken away, at most so many.
func takes(c api.Code, mask, from, most int) bool {
	if !code.Recoverable(c, mask) {
		return false
	}
	for k := from; most > 0 && k < api.MaxPieces; k++ {
		if has(mask, k) && !takes(c, mask&^(1<<k), k+1, most-1) {
			return false
		}
	}
	return true
}

// TestGreatCodes compares Detects and Corrects with a look at what is left, for codes of many pieces.
func TestGreatCodes(t *testing.T) {
	r := rand.New(rand.NewSource(2))
	seen := [2]int{}
	for k := range 60 {
		c := anyCode(r, api.MaxPieces-k%12)
		if k < 4 {
			c = []api.Code{greatest(), {Data: 16, Globals: 4}, {Data: 16, Groups: [][]int{{0, 1, 2, 3, 4, 5, 6, 7, 8, 9, 10, 11, 12, 13, 14, 15}}, Globals: 4}, {Data: 12, Globals: 4}}[k]
		}
		for _, mask := range []int{all(c), anySet(r, c, 3)} {
			for wrong := range api.MaxWrong + 1 {
				want := takes(c, mask, 0, wrong)
				ok, e := locate.Detects(c, mask, wrong)
				if ok != want || e != api.OK {
					t.Fatalf("P9.1: Detects with %v of %b and %d wrong ones: %t %d", c, mask, wrong, ok, e)
				}
				if ok {
					seen[1]++
				} else {
					seen[0]++
				}
			}
		}
	}
	if seen[0] < 100 || seen[1] < 100 {
		t.Error("too few cases:", seen)
	}
}

// locates compares Locate with a search through all chunks, and returns its error.
func locates(t *testing.T, c api.Code, x every, mask int, pieces []string, wrong int) api.Errno {
	t.Helper()
	chunk, bad, e := locate.Locate(c, x.n, mask, pieces, wrong)
	corrects, f := locate.Corrects(c, mask, wrong)
	if f != api.OK || (e == api.ErrState) == corrects {
		t.Fatalf("P9.2: Locate with %v of %b and %d wrong ones: %d, and Corrects: %t %d", c, mask, wrong, e, corrects, f)
	}
	if e == api.ErrState {
		if chunk != "" || bad != 0 {
			t.Fatalf("P9.2: Locate with ErrState: %q %d", chunk, bad)
		}
		return e
	}
	chunks, sets := x.near(mask, pieces, wrong)
	if len(chunks) > 1 {
		t.Fatalf("P9.2: with %v of %b and %d wrong ones there are the chunks %q", c, mask, wrong, chunks)
	}
	if len(chunks) == 0 {
		if chunk != "" || bad != 0 || e != api.ErrLost {
			t.Fatalf("P9.2: Locate with %v of %b and %d wrong ones of %q: %q %d %d, and there is no chunk", c, mask, wrong, pieces, chunk, bad, e)
		}
		return e
	}
	if chunk != chunks[0] || bad != sets[0] || e != api.OK {
		t.Fatalf("P9.2: Locate with %v of %b and %d wrong ones of %q: %q %d %d, and not %q %d", c, mask, wrong, pieces, chunk, bad, e, chunks[0], sets[0])
	}
	return e
}

// TestAllChunks compares Locate with a search through all chunks of at most two bytes, some of which do not fill the data pieces.
func TestAllChunks(t *testing.T) {
	r := rand.New(rand.NewSource(3))
	seen := map[api.Errno]int{}
	for _, x := range []struct {
		c       api.Code
		n, many int
	}{
		{api.Code{Data: 1, Groups: [][]int{{0}}, Globals: 4}, 0, 20},
		{api.Code{Data: 1, Groups: [][]int{{0}}, Globals: 4}, 1, 1500},
		{api.Code{Data: 1, Globals: 2}, 2, 10},
		{api.Code{Data: 2, Globals: 3}, 1, 1500},
		{api.Code{Data: 2, Groups: [][]int{{0}, {1}}, Globals: 4}, 1, 1500},
		{api.Code{Data: 2, Globals: 4}, 2, 30},
		{api.Code{Data: 3, Groups: [][]int{{0, 1, 2}}, Globals: 4}, 1, 1000},
		{api.Code{Data: 3, Groups: [][]int{{0, 2}, {1}}, Globals: 4}, 2, 30},
		{example(), 2, 30},
	} {
		chunks := everyChunk(t, x.c, x.n)
		size := code.Size(x.c, x.n)
		for range x.many {
			mask := anySet(r, x.c, 2)
			pieces := chunks.pieces[r.Intn(len(chunks.pieces))]
			if size > 0 {
				if r.Intn(3) == 0 {
					pieces = shifted(t, x.c, pieces, r.Intn(x.c.Data), noise(r, size))
				}
				pieces, _ = replaced(r, pieces, mask, r.Intn(4))
			}
			seen[locates(t, x.c, chunks, mask, only(r, pieces, mask), r.Intn(api.MaxWrong/2+1))]++
		}
	}
	if seen[api.OK] < 500 || seen[api.ErrLost] < 500 || seen[api.ErrState] < 500 {
		t.Error("too few cases:", seen)
	}
}

// TestFilledUp gives pieces that fit, but of which the data pieces have other bytes than zeros behind those of the chunk.
func TestFilledUp(t *testing.T) {
	c := example()
	pieces := with(t, nil)
	pieces = shifted(t, c, pieces, 3, "\x00\x05")
	if ok, e := locate.Fits(c, 7, 127, pieces); !ok || e != api.OK {
		t.Error("P9.3: Fits with other bytes behind the chunk:", ok, e)
	}
	if set, e := locate.Clash(c, 7, 127, pieces); set != 0 || e != api.ErrNone {
		t.Error("P9.4: Clash with other bytes behind the chunk:", set, e)
	}
	for wrong := range 2 {
		if s, bad, e := locate.Locate(c, 7, 127, pieces, wrong); s != "" || bad != 0 || e != api.ErrLost {
			t.Errorf("P9.2: Locate with other bytes behind the chunk: %q %d %d", s, bad, e)
		}
	}
	if s, bad, e := locate.Locate(c, 8, 127, pieces, 1); s != "\x01\x02\x03\x04\x05\x06\x07\x05" || bad != 0 || e != api.OK {
		t.Errorf("P9.2: Locate of a longer chunk: %q %d %d", s, bad, e)
	}
	pieces = with(t, map[int]string{3: "\x07\x05"})
	if s, bad, e := locate.Locate(c, 7, 127, pieces, 1); s != "\x01\x02\x03\x04\x05\x06\x07" || bad != 8 || e != api.OK {
		t.Errorf("P9.2: Locate with another piece 3: %q %d %d", s, bad, e)
	}
}

// TestAllData compares Fits with a search through all bytes of one or two data pieces, each of one byte.
func TestAllData(t *testing.T) {
	r := rand.New(rand.NewSource(4))
	seen := [2]int{}
	for k := range 60 {
		c := api.Code{Data: 1, Globals: 1 + r.Intn(api.MaxGlobals)}
		if k%6 == 0 {
			c.Data = 2
		}
		if r.Intn(3) == 0 {
			c.Groups = [][]int{{0}}
		}
		chunks := everyChunk(t, c, c.Data)
		for range 40 {
			mask := r.Intn(all(c) + 1)
			pieces, _ := replaced(r, chunks.pieces[r.Intn(len(chunks.pieces))], all(c), r.Intn(3))
			found, _ := chunks.near(mask, pieces, 0)
			ok, e := locate.Fits(c, 1+r.Intn(c.Data), mask, only(r, pieces, mask))
			if ok != (len(found) > 0) || e != api.OK {
				t.Fatalf("P9.3: Fits with %v of %b of %q: %t %d", c, mask, pieces, ok, e)
			}
			if ok {
				seen[1]++
			} else {
				seen[0]++
			}
		}
	}
	if seen[0] < 200 || seen[1] < 200 {
		t.Error("too few cases:", seen)
	}
}

// TestRanks compares Fits with the ranks of the rows without the bytes and with them.
func TestRanks(t *testing.T) {
	r := rand.New(rand.NewSource(5))
	seen := [2]int{}
	for range 6000 {
		c := anyCode(r, 1+r.Intn(api.MaxPieces))
		n := r.Intn(8*c.Data) + 1
		mask := anySet(r, c, 8)
		pieces := shifted(t, c, encoded(t, c, noise(r, n)), r.Intn(c.Data), noise(r, code.Size(c, n)))
		pieces, _ = replaced(r, pieces, all(c), r.Intn(3))
		want := wantFits(t, c, mask, pieces)
		if ok, e := locate.Fits(c, n, mask, only(r, pieces, mask)); ok != want || e != api.OK {
			t.Fatalf("P9.3: Fits with %v of %b of %q: %t %d", c, mask, pieces, ok, e)
		}
		if want {
			seen[1]++
		} else {
			seen[0]++
		}
	}
	if seen[0] < 1000 || seen[1] < 1000 {
		t.Error("too few cases:", seen)
	}
}

// TestNothingContradicts checks that no pieces, pieces without bytes, and pieces of which none depends on others fit.
func TestNothingContradicts(t *testing.T) {
	r := rand.New(rand.NewSource(6))
	for _, c := range smallCodes(r) {
		for _, x := range []struct{ n, mask int }{{0, 0}, {0, all(c)}, {7, 0}, {4096, 0}, {100, 1<<c.Data - 1}, {100, 1 << r.Intn(code.Pieces(c))}} {
			pieces := make([]string, code.Pieces(c))
			for k := range pieces {
				pieces[k] = noise(r, code.Size(c, x.n))
			}
			if ok, e := locate.Fits(c, x.n, x.mask, pieces); !ok || e != api.OK {
				t.Error("P9.3: Fits with", c, x.n, x.mask, ok, e)
			}
			set, e := locate.Clash(c, x.n, x.mask, pieces)
			if set != 0 || e != api.ErrNone {
				t.Error("P9.4: Clash with", c, x.n, x.mask, set, e)
			}
		}
	}
}

// TestAllParts compares Clash with a look at all parts of the given pieces.
func TestAllParts(t *testing.T) {
	r := rand.New(rand.NewSource(7))
	found, none, sizes := 0, 0, map[int]int{}
	for k := range 800 {
		c := anyCode(r, 2+k%8)
		if k%10 == 0 {
			c = []api.Code{example(), {Data: 1, Groups: [][]int{{0}}, Globals: 4}, {Data: 4, Globals: 4}, {Data: 3, Groups: [][]int{{0}, {1}, {2}}, Globals: 2}}[k/10%4]
		}
		n := r.Intn(4*c.Data) + 1
		mask := anySet(r, c, 3)
		pieces, _ := replaced(r, encoded(t, c, noise(r, n)), all(c), r.Intn(len(c.Groups)+c.Globals+2))
		want, f := wantClash(t, c, mask, pieces)
		set, e := locate.Clash(c, n, mask, only(r, pieces, mask))
		if set != want || e != f {
			t.Fatalf("P9.4: Clash with %v of %b of %q: %b %d, and not %b %d", c, mask, pieces, set, e, want, f)
		}
		if e == api.OK {
			found++
			sizes[count(set)]++
		} else {
			none++
		}
	}
	if found < 200 || none < 100 || sizes[2] < 20 || sizes[3] < 20 || sizes[4] < 20 || sizes[5] < 20 {
		t.Error("too few cases:", found, none, sizes)
	}
}

// TestClashOfMany seeks clashes among as many pieces as there may be, with codes of more pieces.
func TestClashOfMany(t *testing.T) {
	r := rand.New(rand.NewSource(8))
	found := 0
	for range 12 {
		c := anyCode(r, api.MaxClash+r.Intn(9))
		mask := all(c)
		for count(mask) > api.MaxClash {
			mask &^= 1 << r.Intn(c.Data) // parities tell more
		}
		n := 1 + r.Intn(30)
		pieces, _ := replaced(r, encoded(t, c, noise(r, n)), mask, 1+r.Intn(2))
		want, f := wantClash(t, c, mask, pieces)
		set, e := locate.Clash(c, n, mask, only(r, pieces, mask))
		if set != want || e != f {
			t.Fatalf("P9.4: Clash with %v of %b of %q: %b %d, and not %b %d", c, mask, pieces, set, e, want, f)
		}
		if e == api.OK {
			found++
		}
	}
	c := api.Code{Data: 11, Globals: 1}
	pieces := slices.Repeat([]string{"\x00"}, 12)
	pieces[11] = "\x01"
	if set, e := locate.Clash(c, 11, 1<<12-1, pieces); set != 1<<12-1 || e != api.OK {
		t.Errorf("P9.4: Clash of 11 data pieces and their sum: %b %d", set, e)
	}
	if found < 4 {
		t.Error("too few cases:", found)
	}
}
