package locate_test

import (
	"math/bits"
	"math/rand"
	"slices"
	"testing"

	"quietus/api"
	"quietus/code"
	"quietus/gf"
	"quietus/matrix"
)

// example is the code of chapter 7, which the examples of the chapter take, too.
func example() api.Code {
	return api.Code{Data: 4, Groups: [][]int{{0, 1}, {2, 3}}, Globals: 1}
}

// greatest is a code of as many pieces as there may be.
func greatest() api.Code {
	return api.Code{Data: 16, Groups: [][]int{{0, 1, 2, 3}, {4, 5, 6, 7}, {8, 9, 10, 11}, {12, 13, 14, 15}}, Globals: 4}
}

// count is the number of pieces of a set.
func count(set int) int { return bits.OnesCount(uint(set)) }

// all is the set of all pieces of a code without errors.
func all(c api.Code) int { return 1<<(c.Data+len(c.Groups)+c.Globals) - 1 }

// has says whether a piece is in a set.
func has(set, piece int) bool { return set>>piece&1 == 1 }

// chosen are the rows of a set of pieces, each followed by the bytes of its piece, if there are pieces.
func chosen(t testing.TB, c api.Code, set int, pieces []string) [][]uint8 {
	t.Helper()
	rows, e := code.Rows(c)
	if e != api.OK {
		t.Fatal("Rows of", c, e)
	}
	var m [][]uint8
	for k, row := range rows {
		if !has(set, k) {
			continue
		}
		if pieces != nil {
			row = append(row, pieces[k]...)
		}
		m = append(m, row)
	}
	return m
}

// rank is the rank of a matrix that is not too great for package matrix.
func rank(t testing.TB, m [][]uint8) int {
	t.Helper()
	n, e := matrix.Rank(m)
	if e != api.OK {
		t.Fatal("Rank of", m, e)
	}
	return n
}

// ranks are the ranks of the rows of all sets of pieces of a code.
func ranks(t testing.TB, c api.Code) []int {
	t.Helper()
	l := make([]int, all(c)+1)
	for set := range l {
		l[set] = rank(t, chosen(t, c, set, nil))
	}
	return l
}

// wantSpares says whether each set that is left of some pieces when at most so many of them are taken away has the rank of the data pieces, by a look at all sets.
func wantSpares(c api.Code, ranks []int, mask, most int) bool {
	for left, rank := range ranks {
		if left&^mask == 0 && count(mask&^left) <= most && rank < c.Data {
			return false
		}
	}
	return true
}

// wantFits says whether some pieces are made of the same data: their bytes, as further columns, do not increase the rank.
func wantFits(t testing.TB, c api.Code, mask int, pieces []string) bool {
	t.Helper()
	return rank(t, chosen(t, c, mask, nil)) == rank(t, chosen(t, c, mask, pieces))
}

// isBefore says whether a set comes before another one: it has fewer pieces, or as many, and the least one of those in which they differ.
func isBefore(a, b int) bool {
	if count(a) != count(b) {
		return count(a) < count(b)
	}
	for k := range api.MaxPieces {
		if has(a, k) != has(b, k) {
			return has(a, k)
		}
	}
	return false
}

// wantClash is the least part of a set of pieces that does not fit, by a look at all parts.
func wantClash(t testing.TB, c api.Code, mask int, pieces []string) (int, api.Errno) {
	t.Helper()
	if wantFits(t, c, mask, pieces) {
		return 0, api.ErrNone
	}
	least := mask
	for part := range mask {
		if part&^mask == 0 && isBefore(part, least) && !wantFits(t, c, part, pieces) {
			least = part
		}
	}
	return least, api.OK
}

// every is all chunks of n bytes with their pieces.
type every struct {
	n      int
	chunks []string
	pieces [][]string
}

// everyChunk encodes all chunks of n bytes, which are at most 2.
func everyChunk(t testing.TB, c api.Code, n int) every {
	t.Helper()
	x := every{n: n}
	for number := range 1 << (8 * n) {
		chunk := string([]byte{byte(number), byte(number >> 8)}[:n])
		pieces, e := code.Encode(c, chunk)
		if e != api.OK {
			t.Fatal("Encode with", c, e)
		}
		x.chunks, x.pieces = append(x.chunks, chunk), append(x.pieces, pieces)
	}
	return x
}

// near are the chunks of whose pieces at most so many differ from the given ones, and the sets of those that differ.
func (x every) near(mask int, pieces []string, wrong int) (chunks []string, bad []int) {
	for k, chunk := range x.chunks {
		differ := 0
		for p, piece := range x.pieces[k] {
			if has(mask, p) && piece != pieces[p] {
				differ |= 1 << p
			}
		}
		if count(differ) <= wrong {
			chunks, bad = append(chunks, chunk), append(bad, differ)
		}
	}
	return chunks, bad
}

// groupsOf are so many groups of data pieces: each data piece is in the next one of them, and some in none.
func groupsOf(r *rand.Rand, data, many, none int) [][]int {
	groups := make([][]int, many)
	for place, i := range r.Perm(data)[min(none, data-many):] {
		groups[place%many] = append(groups[place%many], i)
	}
	for _, group := range groups {
		slices.Sort(group)
	}
	return groups
}

// anyCode is a code without errors that has so many pieces.
func anyCode(r *rand.Rand, pieces int) api.Code {
	for {
		c := api.Code{Data: 1 + r.Intn(min(pieces, api.MaxData)), Globals: r.Intn(api.MaxGlobals + 1)}
		if many := pieces - c.Data - c.Globals; many > 0 && many <= c.Data {
			c.Groups = groupsOf(r, c.Data, many, r.Intn(c.Data)*r.Intn(2))
		}
		if c.Data+len(c.Groups)+c.Globals == pieces {
			return c
		}
	}
}

// smallCodes are many codes of few pieces.
func smallCodes(r *rand.Rand) []api.Code {
	codes := []api.Code{
		example(), {Data: 1}, {Data: 5}, {Data: 1, Groups: [][]int{{0}}, Globals: 4}, {Data: 3, Groups: [][]int{}, Globals: 4}, {Data: 2, Groups: [][]int{{1}, {0}}, Globals: 4}, {Data: 4, Globals: 4}, {Data: 5, Groups: [][]int{{1, 4}}, Globals: 1}, {Data: 4, Groups: [][]int{{2, 3}, {0}}},
	}
	for k := range 30 {
		codes = append(codes, anyCode(r, 1+k%9))
	}
	return codes
}

// anySet is the set of the pieces of a code but at most so many.
func anySet(r *rand.Rand, c api.Code, without int) int {
	set := all(c)
	for range r.Intn(without + 1) {
		set &^= 1 << r.Intn(c.Data+len(c.Groups)+c.Globals)
	}
	return set
}

// noise are n random bytes.
func noise(r *rand.Rand, n int) string {
	b := make([]byte, n)
	r.Read(b)
	return string(b)
}

// encoded are the pieces of a chunk.
func encoded(t testing.TB, c api.Code, chunk string) []string {
	t.Helper()
	pieces, e := code.Encode(c, chunk)
	if e != api.OK {
		t.Fatal("Encode with", c, e)
	}
	return pieces
}

// replaced are pieces of which so many of a set are others, in one byte or in all, and the set of those.
func replaced(r *rand.Rand, pieces []string, mask, many int) ([]string, int) {
	others, bad := slices.Clone(pieces), 0
	for count(bad) < min(many, count(mask)) {
		k := r.Intn(len(pieces))
		if !has(mask, k) || has(bad, k) {
			continue
		}
		bad |= 1 << k
		other := []byte(pieces[k])
		if r.Intn(2) == 0 {
			r.Read(other)
		}
		if string(other) == pieces[k] {
			other[r.Intn(len(other))] ^= byte(1 + r.Intn(255))
		}
		others[k] = string(other)
	}
	return others, bad
}

// only are the pieces of a set; the others are replaced by bytes of any number.
func only(r *rand.Rand, pieces []string, set int) []string {
	some := slices.Clone(pieces)
	for k := range some {
		if !has(set, k) {
			some[k] = noise(r, r.Intn(2)*len(some[k])+r.Intn(3))
		}
	}
	return some
}

// shifted are pieces of a chunk to whose data pieces others were added: they fit, but they need not be those of a chunk with zeros behind its bytes.
func shifted(t testing.TB, c api.Code, pieces []string, at int, by string) []string {
	t.Helper()
	some := slices.Clone(pieces)
	for k, row := range chosen(t, c, all(c), nil) {
		some[k] = gf.Sum(pieces[k], gf.Scale(row[at], by))
	}
	return some
}
