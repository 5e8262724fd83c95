package code_test

import (
	"math"
	"math/bits"
	"math/rand"
	"slices"
	"testing"

	"quietus/api"
	"quietus/code"
)

// decodes checks that Decode returns a chunk from a set of its pieces, or none if the set is not recoverable.
func decodes(t *testing.T, r *rand.Rand, c api.Code, data string, pieces []string, mask int) {
	t.Helper()
	got, e := code.Decode(c, len(data), mask, only(r, pieces, mask))
	if code.Recoverable(c, mask) {
		if got != data || e != api.OK {
			t.Fatalf("P7.7: Decode with %v from %b: %q %d, and not %q", c, mask, got, e, data)
		}
	} else if got != "" || e != api.ErrLost {
		t.Fatalf("P7.5: Decode with %v from %b, which is not recoverable: %q %d", c, mask, got, e)
	}
}

// TestDecodedAgain encodes chunks, and decodes them from all sets of their pieces.
func TestDecodedAgain(t *testing.T) {
	r := rand.New(rand.NewSource(9))
	for k := range 60 {
		c := anyCode(r, 5)
		if k == 0 {
			c = example()
		}
		data := noise(r, r.Intn(4*c.Data+1))
		pieces, e := code.Encode(c, data)
		if e != api.OK {
			t.Fatal("P7.3: Encode with", c, e)
		}
		for mask := range 1 << len(pieces) {
			decodes(t, r, c, data, pieces, mask)
		}
	}
	for k := range 4000 {
		c, n := anyCode(r, api.MaxData), r.Intn(200)
		if k%200 == 0 {
			n = api.MaxChunk - k/200
		}
		data := noise(r, n)
		pieces, e := code.Encode(c, data)
		if e != api.OK {
			t.Fatal("P7.3: Encode with", c, e)
		}
		decodes(t, r, c, data, pieces, without(r, c, 8))
	}
}

// TestReplaced replaces a piece of a set: without which the set is recoverable, or not.
func TestReplaced(t *testing.T) {
	r := rand.New(rand.NewSource(10))
	noticed := 0
	for range 6000 {
		c := anyCode(r, 1+r.Intn(api.MaxData))
		data := noise(r, 1+r.Intn(60))
		pieces, mask := wantEncode(c, data), without(r, c, r.Intn(4))
		k := r.Intn(len(pieces))
		if mask>>k&1 == 0 {
			continue
		}
		pieces[k] = spoilt(pieces[k], r.Intn(len(pieces[k])), uint8(1+r.Intn(255)))
		got, e := code.Decode(c, len(data), mask, only(r, pieces, mask))
		if code.Recoverable(c, mask&^(1<<k)) {
			noticed++
			if got != "" || e != api.ErrCorrupt {
				t.Fatalf("P7.7: Decode with %v from %b, with another piece %d: %q %d", c, mask, k, got, e)
			}
		} else if e == api.OK && got == data {
			t.Fatalf("P7.5: Decode with %v from %b does not look at the piece %d", c, mask, k)
		}
	}
	if noticed < 1000 {
		t.Error("too few cases:", noticed)
	}
	c := example()
	pieces := wantEncode(c, "\x01\x02\x03\x04\x05\x06\x07")
	for k := range pieces {
		for at := range 2 {
			for by := 1; by < 256; by++ {
				other := slices.Clone(pieces)
				other[k] = spoilt(other[k], at, uint8(by))
				if got, e := code.Decode(c, 7, 127, other); got != "" || e != api.ErrCorrupt {
					t.Fatalf("P7.7: Decode with C from all, with another piece %d: %q %d", k, got, e)
				}
			}
		}
	}
}

// TestFewLosses loses all sets of fewer pieces than Distance, and finds one of as many that is not recoverable.
func TestFewLosses(t *testing.T) {
	r := rand.New(rand.NewSource(11))
	for k := range 40 {
		c := anyCode(r, 10)
		if k < 3 {
			c = []api.Code{example(), regular(12, 3, 2), {Data: 16, Globals: 2}}[k]
		}
		distance, e := code.Distance(c)
		if e != api.OK {
			t.Fatal("P7.6: Distance of", c, e)
		}
		found := false
		all := 1<<wantPieces(c) - 1
		for lost := range all + 1 {
			switch n := bits.OnesCount(uint(lost)); {
			case n < distance && !code.Recoverable(c, all&^lost):
				t.Fatalf("P7.8: with %v and the distance %d, the loss of %b is not recoverable", c, distance, lost)
			case n == distance && !code.Recoverable(c, all&^lost):
				found = true
			}
		}
		if !found {
			t.Fatal("P7.6: with", c, "each loss of", distance, "pieces is recoverable")
		}
	}
}

// TestMorePieces checks that no recoverable set is too small, and that it stays recoverable with more pieces.
func TestMorePieces(t *testing.T) {
	r := rand.New(rand.NewSource(12))
	for range 40 {
		c := anyCode(r, 8)
		n := code.Pieces(c)
		for range 1000 {
			mask := r.Intn(1 << n)
			if !code.Recoverable(c, mask) {
				continue
			}
			if bits.OnesCount(uint(mask)) < c.Data {
				t.Fatalf("P7.8: with %v, %b is recoverable", c, mask)
			}
			for k := range n {
				if !code.Recoverable(c, mask|1<<k) {
					t.Fatalf("P7.8: with %v, %b is recoverable, but not with the piece %d", c, mask, k)
				}
			}
		}
	}
}

// TestGroups adds up the pieces of each group, and its local parity: the sum of all of them is 0, so that each one is the sum of the others.
func TestGroups(t *testing.T) {
	r := rand.New(rand.NewSource(13))
	for range 1000 {
		c, n := anyCode(r, api.MaxData), r.Intn(100)
		pieces, e := code.Encode(c, noise(r, n))
		if e != api.OK {
			t.Fatal("P7.3: Encode with", c, e)
		}
		for g, group := range c.Groups {
			for b := range code.Size(c, n) {
				sum := pieces[c.Data+g][b]
				for _, i := range group {
					sum ^= pieces[i][b]
				}
				if sum != 0 {
					t.Fatal("P7.9: with", c, "the byte", b, "of the sum of the group", g, "and its local parity:", sum)
				}
			}
		}
	}
}

// TestLossesOfData loses data pieces alone: at most Globals of them are not the only lost one of their group.
func TestLossesOfData(t *testing.T) {
	r := rand.New(rand.NewSource(14))
	checked, groups := 0, 0
	for range 30000 {
		c := anyCode(r, api.MaxData)
		lost := r.Intn(1<<c.Data) & r.Intn(1<<c.Data)
		alone := 0
		for _, group := range c.Groups {
			in := 0
			for _, i := range group {
				in += lost >> i & 1
			}
			if in == 1 {
				alone++
			}
		}
		if bits.OnesCount(uint(lost))-alone > c.Globals {
			continue
		}
		checked++
		groups += alone
		if !code.Recoverable(c, 1<<wantPieces(c)-1-lost) {
			t.Fatalf("P7.9: with %v, the loss of %b is not recoverable", c, lost)
		}
	}
	if checked < 5000 || groups < 5000 {
		t.Error("too few cases:", checked, groups)
	}
}

// cloned is a code in new memory, whose lists have room behind them.
func cloned(c api.Code) api.Code {
	groups := make([][]int, len(c.Groups), len(c.Groups)+3)
	for g, group := range c.Groups {
		groups[g] = append(make([]int, 0, len(group)+3), group...)
	}
	return api.Code{Data: c.Data, Groups: groups, Globals: c.Globals}
}

// equal says whether two codes are the same, with what is behind their lists.
func equal(a, b api.Code) bool {
	return a.Data == b.Data && a.Globals == b.Globals && slices.EqualFunc(a.Groups[:cap(a.Groups)], b.Groups[:cap(b.Groups)], func(x, y []int) bool { return slices.Equal(x[:cap(x)], y[:cap(y)]) })
}

// TestMemory checks that arguments are not modified, and that results are new memory and share none with one another.
func TestMemory(t *testing.T) {
	r := rand.New(rand.NewSource(15))
	for _, c := range []api.Code{example(), regular(16, 4, 4), {Data: 1}, {Data: 3, Groups: [][]int{}}, {Data: 4, Groups: [][]int{{1, 3}}, Globals: 2}, {Data: 4, Groups: [][]int{{3, 1}}, Globals: 2}} {
		mine := cloned(c)
		data := noise(r, 50)
		pieces := wantEncode(c, data)
		given := append(slices.Clone(pieces), "behind")[:len(pieces)]
		rows, _ := code.Rows(mine)
		encoded, _ := code.Encode(mine, data)
		decoded, _ := code.Decode(mine, 50, 1<<len(pieces)-2, given)
		code.Check(mine)
		code.Pieces(mine)
		code.Size(mine, 50)
		code.Recoverable(mine, 1)
		code.Distance(mine)
		if !equal(mine, cloned(c)) || !slices.Equal(given, pieces) || len(pieces) > 0 && given[:len(pieces)+1][len(pieces)] != "behind" {
			t.Error("DOC.md, Memory: an argument was modified:", c, mine)
		}
		want, _ := code.Rows(c)
		for k := range rows {
			full := rows[k][:cap(rows[k])]
			for j := range full {
				full[j] = 0xdd
			}
			if !slices.EqualFunc(rows[k+1:], want[k+1:], slices.Equal[[]uint8]) {
				t.Error("chapter 7: rows share memory:", c, k)
			}
		}
		for k := range given {
			given[k] = "other"
		}
		again, _ := code.Rows(c)
		chunk, _ := code.Decode(c, 50, 1<<len(pieces)-2, pieces)
		if !slices.EqualFunc(again, want, slices.Equal[[]uint8]) || !slices.Equal(encoded, pieces) || chunk != decoded {
			t.Error("chapter 7: a function is not pure:", c)
		}
		encoded = append(encoded, "more")
		if p, _ := code.Encode(c, data); !slices.Equal(p, pieces) || len(encoded) != len(pieces)+1 {
			t.Error("chapter 7: the pieces of one call are changed by another one:", c)
		}
	}
}

// TestAnyArguments calls all functions with any codes, numbers and pieces: none of them panics, and the results are those of the references.
func TestAnyArguments(t *testing.T) {
	r := rand.New(rand.NewSource(16))
	numbers := []int{math.MinInt, math.MinInt + 1, -7, -1, 0, 1, 2, 3, 4, 7, 8, 15, 31, 63, 127, 4095, 4096, 4097, 1<<24 - 1, 1 << 24, 1<<32 - 1, 1 << 32, math.MaxInt - 1, math.MaxInt}
	any := func() int { return numbers[r.Intn(len(numbers))] }
	for range 20000 {
		c := wild(r)
		if r.Intn(4) == 0 {
			c.Data = any()
		}
		if r.Intn(8) == 0 {
			c.Globals = any()
		}
		if r.Intn(8) == 0 && len(c.Groups) > 0 {
			c.Groups[0] = []int{any(), any()}
		}
		n, mask := any(), any()
		pieces := make([]string, r.Intn(26))
		for k := range pieces {
			pieces[k] = noise(r, wantSize(c, n))
		}
		want := wantCheck(c)
		if e := code.Check(c); e != want || code.Pieces(c) != wantPieces(c) || code.Size(c, n) != wantSize(c, n) {
			t.Fatal("P1: Check, Pieces and Size of", c, n, e)
		}
		if rows, e := code.Rows(c); e != want || len(rows) != wantPieces(c) {
			t.Fatal("P1: Rows of", c, rows, e)
		}
		if p, e := code.Encode(c, "any chunk"); e != want || len(p) != wantPieces(c) {
			t.Fatal("P1: Encode with", c, p, e)
		}
		if got := code.Recoverable(c, mask); got != wantRecoverable(c, mask) {
			t.Fatal("P1: Recoverable with", c, mask, got)
		}
		data, f := wantDecode(c, n, mask, pieces)
		if got, e := code.Decode(c, n, mask, pieces); got != data || e != f {
			t.Fatalf("P1: Decode with %v, %d bytes from %b: %q %d", c, n, mask, got, e)
		}
		if r.Intn(100) == 0 {
			if n, e := code.Distance(c); e != want || (n > 0) != (e == api.OK) {
				t.Fatal("P1: Distance of", c, n, e)
			}
		}
	}
}
