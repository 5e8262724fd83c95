package code_test

import (
	"math/bits"
	"math/rand"
	"slices"

	"quietus/api"
)

// products has the products of all pairs of bytes: of polynomials over GF(2), modulo the polynomial 285.
var products = func() (all [256][256]uint8) {
	for a := range 256 {
		for b := range 256 {
			p := 0
			for k := range 8 {
				p ^= (b >> k & 1) * a << k
			}
			for k := 6; k >= 0; k-- {
				p ^= (p >> (k + 8) & 1) * (285 << k)
			}
			all[a][b] = uint8(p)
		}
	}
	return all
}()

// inverses has for each byte but 0 the one with which its product is 1.
var inverses = func() (all [256]uint8) {
	for a := range 256 {
		for b := range 256 {
			if products[a][b] == 1 {
				all[a] = uint8(b)
			}
		}
	}
	return all
}()

// power is the product of n bytes 2.
func power(n int) uint8 {
	p := uint8(1)
	for range n {
		p = products[p][2]
	}
	return p
}

// ascending says whether each number is greater than the one before.
func ascending(group []int) bool {
	for k := 1; k < len(group); k++ {
		if group[k] <= group[k-1] {
			return false
		}
	}
	return true
}

// wantCheck is the first error of a code, as P7.1 says it.
func wantCheck(c api.Code) api.Errno {
	if c.Data < 1 || c.Data > api.MaxData || c.Globals < 0 || c.Globals > api.MaxGlobals {
		return api.ErrRange
	}
	if c.Data+len(c.Groups)+c.Globals > api.MaxPieces {
		return api.ErrLimit
	}
	for g, group := range c.Groups {
		if len(group) == 0 {
			return api.ErrNone
		}
		before := slices.Concat(c.Groups[:g]...)
		bad := func(i int) bool { return i < 0 || i >= c.Data || slices.Contains(before, i) }
		if !ascending(group) || slices.ContainsFunc(group, bad) {
			return api.ErrArg
		}
	}
	return api.OK
}

// wantPieces is the number of pieces of a code.
func wantPieces(c api.Code) int {
	if wantCheck(c) != api.OK {
		return 0
	}
	return c.Data + len(c.Groups) + c.Globals
}

// wantSize is the least number of bytes such that Data pieces of them have n bytes.
func wantSize(c api.Code, n int) int {
	if wantCheck(c) != api.OK || n < 0 || n > api.MaxChunk {
		return 0
	}
	size := 0
	for size*c.Data < n {
		size++
	}
	return size
}

// wantRows are the coefficients of the pieces of a code without errors, as P7.2 says them.
func wantRows(c api.Code) [][]uint8 {
	var rows [][]uint8
	for k := range wantPieces(c) {
		row := make([]uint8, c.Data)
		for i := range row {
			switch {
			case k < c.Data && i == k:
				row[i] = 1
			case k >= c.Data && k < c.Data+len(c.Groups) && slices.Contains(c.Groups[k-c.Data], i):
				row[i] = 1
			case k >= c.Data+len(c.Groups):
				row[i] = power(i * (k - c.Data - len(c.Groups) + 1))
			}
		}
		rows = append(rows, row)
	}
	return rows
}

// wantEncode are the pieces of a chunk, each byte computed on its own.
func wantEncode(c api.Code, data string) []string {
	n := wantSize(c, len(data))
	at := func(i, b int) uint8 {
		if i*n+b < len(data) {
			return data[i*n+b]
		}
		return 0
	}
	var pieces []string
	for _, row := range wantRows(c) {
		piece := make([]byte, n)
		for b := range piece {
			for i, by := range row {
				piece[b] ^= products[by][at(i, b)]
			}
		}
		pieces = append(pieces, string(piece))
	}
	return pieces
}

// eliminate brings a matrix, whose rows may be longer than its columns, into reduced form in place, and returns its rank.
func eliminate(m [][]uint8, columns int) int {
	rank := 0
	for k := range columns {
		at := rank
		for at < len(m) && m[at][k] == 0 {
			at++
		}
		if at == len(m) {
			continue
		}
		m[rank], m[at] = m[at], m[rank]
		inverse := inverses[m[rank][k]]
		for j := range m[rank] {
			m[rank][j] = products[inverse][m[rank][j]]
		}
		for i := range m {
			if by := m[i][k]; i != rank && by != 0 {
				for j := range m[i] {
					m[i][j] ^= products[by][m[rank][j]]
				}
			}
		}
		rank++
	}
	return rank
}

// chosen are the rows of a set of pieces of a code without errors, each followed by the bytes of its piece, if there are pieces.
func chosen(c api.Code, mask int, pieces []string) [][]uint8 {
	var m [][]uint8
	for k, row := range wantRows(c) {
		if mask>>k&1 == 0 {
			continue
		}
		if pieces != nil {
			row = append(row, pieces[k]...)
		}
		m = append(m, row)
	}
	return m
}

// isMask says whether a number is a set of pieces of a code without errors.
func isMask(c api.Code, mask int) bool { return mask >= 0 && mask < 1<<wantPieces(c) }

// wantRecoverable says whether the rows of a set of pieces have the rank Data.
func wantRecoverable(c api.Code, mask int) bool {
	return wantCheck(c) == api.OK && isMask(c, mask) && eliminate(chosen(c, mask, nil), c.Data) == c.Data
}

// wantDecode is the chunk of n bytes that has some pieces, from equations between all of them, as P7.5 says it.
func wantDecode(c api.Code, n, mask int, pieces []string) (string, api.Errno) {
	if e := wantCheck(c); e != api.OK {
		return "", e
	}
	if n < 0 || n > api.MaxChunk || !isMask(c, mask) || len(pieces) != wantPieces(c) {
		return "", api.ErrArg
	}
	for k, piece := range pieces {
		if mask>>k&1 == 1 && len(piece) != wantSize(c, n) {
			return "", api.ErrArg
		}
	}
	if !wantRecoverable(c, mask) {
		return "", api.ErrLost
	}
	m := chosen(c, mask, pieces)
	eliminate(m, c.Data)
	var data []byte
	for i, row := range m {
		rest := row[c.Data:]
		if i < c.Data {
			data = append(data, rest...)
		} else if slices.Max(append(rest, 0)) > 0 { // an equation between other pieces that does not hold
			return "", api.ErrCorrupt
		}
	}
	if slices.Max(append(data[n:], 0)) > 0 {
		return "", api.ErrCorrupt
	}
	return string(data[:n]), api.OK
}

// wantDistance is the least number of pieces that are not in a set that is not recoverable, over all sets.
func wantDistance(c api.Code) int {
	n := wantPieces(c)
	least := n
	for mask := range 1 << n {
		if lost := n - bits.OnesCount(uint(mask)); lost < least && !wantRecoverable(c, mask) {
			least = lost
		}
	}
	return least
}

// example is the code C of the chapter.
func example() api.Code {
	return api.Code{Data: 4, Groups: [][]int{{0, 1}, {2, 3}}, Globals: 1}
}

// groupsOf are so many groups of data pieces: each data piece is in the next one of them, and some in none.
func groupsOf(r *rand.Rand, data, many, none int) [][]int {
	groups := make([][]int, many)
	for place, i := range r.Perm(data)[min(none, data-many):] {
		groups[place%many] = append(groups[place%many], i)
	}
	for _, group := range groups {
		slices.Sort(group)
	}
	return groups
}

// anyCode is a code without errors that has at most so many data pieces.
func anyCode(r *rand.Rand, most int) api.Code {
	for {
		c := api.Code{Data: 1 + r.Intn(most), Globals: r.Intn(api.MaxGlobals + 1)}
		if many := r.Intn(min(c.Data, 6) + 1); many > 0 {
			c.Groups = groupsOf(r, c.Data, many, r.Intn(c.Data)*r.Intn(2))
		}
		if c.Data+len(c.Groups)+c.Globals <= api.MaxPieces {
			return c
		}
	}
}

// regular is the code whose data pieces are in so many groups by turns.
func regular(data, groups, globals int) api.Code {
	c := api.Code{Data: data, Groups: make([][]int, groups), Globals: globals}
	for i := range data {
		if groups > 0 {
			c.Groups[i%groups] = append(c.Groups[i%groups], i)
		}
	}
	return c
}

// without is the set of the pieces of a code but at most so many.
func without(r *rand.Rand, c api.Code, lost int) int {
	mask := 1<<wantPieces(c) - 1
	for range lost {
		mask &^= 1 << r.Intn(wantPieces(c))
	}
	return mask
}

// noise are n random bytes; in a quarter of the strings most are 0.
func noise(r *rand.Rand, n int) string {
	b := make([]byte, n)
	r.Read(b)
	if r.Intn(4) == 0 {
		for k := range b {
			if r.Intn(5) > 0 {
				b[k] = 0
			}
		}
	}
	return string(b)
}

// spoilt is a string with another byte in the place k.
func spoilt(s string, k int, by uint8) string {
	b := []byte(s)
	b[k] ^= by
	return string(b)
}

// only are the pieces of a set; the others are replaced by bytes of any number.
func only(r *rand.Rand, pieces []string, mask int) []string {
	some := slices.Clone(pieces)
	for k := range some {
		if mask>>k&1 == 0 {
			some[k] = noise(r, r.Intn(2)*len(some[k])+r.Intn(3))
		}
	}
	return some
}

// badCode is a code with an error, and its name.
type badCode struct {
	name string
	c    api.Code
	want api.Errno
}

// singles are so many groups of one data piece each.
func singles(many int) [][]int {
	var groups [][]int
	for i := range many {
		groups = append(groups, []int{i})
	}
	return groups
}

// badCodes are codes with each error, alone and together with later ones.
func badCodes() []badCode {
	return []badCode{
		{"the zero value", api.Code{}, api.ErrRange},
		{"no data", api.Code{Globals: 1}, api.ErrRange},
		{"negative data", api.Code{Data: -1, Globals: 1}, api.ErrRange},
		{"17 data pieces", api.Code{Data: 17}, api.ErrRange},
		{"the least number of data pieces", api.Code{Data: -1 << 63, Globals: 4}, api.ErrRange},
		{"the greatest number of data pieces", api.Code{Data: 1<<63 - 1, Globals: 4}, api.ErrRange},
		{"negative globals", api.Code{Data: 4, Globals: -1}, api.ErrRange},
		{"5 globals", api.Code{Data: 4, Globals: 5}, api.ErrRange},
		{"the least number of globals", api.Code{Data: 4, Globals: -1 << 63}, api.ErrRange},
		{"the greatest number of globals", api.Code{Data: 4, Globals: 1<<63 - 1}, api.ErrRange},
		{"no data, and too many pieces", api.Code{Groups: singles(30)}, api.ErrRange},
		{"5 globals, and too many pieces", api.Code{Data: 16, Groups: singles(16), Globals: 5}, api.ErrRange},
		{"5 globals, and an empty group", api.Code{Data: 4, Groups: [][]int{{}}, Globals: 5}, api.ErrRange},
		{"17 data pieces, and a wrong group", api.Code{Data: 17, Groups: [][]int{{1, 0}}}, api.ErrRange},
		{"25 pieces", api.Code{Data: 16, Groups: singles(5), Globals: 4}, api.ErrLimit},
		{"25 pieces without globals", api.Code{Data: 16, Groups: singles(9)}, api.ErrLimit},
		{"25 pieces of small codes", api.Code{Data: 1, Groups: make([][]int, 24)}, api.ErrLimit},
		{"25 pieces, and wrong groups", api.Code{Data: 2, Groups: append([][]int{{1, 0}, {}}, singles(19)...), Globals: 2}, api.ErrLimit},
		{"very many groups", api.Code{Data: 2, Groups: make([][]int, 1<<20)}, api.ErrLimit},
		{"an empty group", api.Code{Data: 4, Groups: [][]int{{}}}, api.ErrNone},
		{"a group that is nil", api.Code{Data: 4, Groups: [][]int{nil}}, api.ErrNone},
		{"an empty group at the end", api.Code{Data: 4, Groups: [][]int{{0, 1}, {2}, {}}, Globals: 4}, api.ErrNone},
		{"an empty group, and a wrong one", api.Code{Data: 4, Groups: [][]int{{}, {1, 0}}}, api.ErrNone},
		{"a wrong group, and an empty one", api.Code{Data: 4, Groups: [][]int{{1, 0}, {}}}, api.ErrArg},
		{"a right group, an empty one, and a wrong one", api.Code{Data: 4, Groups: [][]int{{3}, {}, {3}}}, api.ErrNone},
		{"a right group, a wrong one, and an empty one", api.Code{Data: 4, Groups: [][]int{{3}, {3}, {}}}, api.ErrArg},
		{"a group that descends", api.Code{Data: 4, Groups: [][]int{{0, 2, 1}}}, api.ErrArg},
		{"a group with a piece twice", api.Code{Data: 4, Groups: [][]int{{0, 2, 2}}}, api.ErrArg},
		{"a group with the piece 0 twice", api.Code{Data: 4, Groups: [][]int{{0, 0}}}, api.ErrArg},
		{"a negative piece", api.Code{Data: 4, Groups: [][]int{{-1, 2}}}, api.ErrArg},
		{"the least number as a piece", api.Code{Data: 4, Groups: [][]int{{-1 << 63, 2}}}, api.ErrArg},
		{"the greatest number as a piece", api.Code{Data: 4, Groups: [][]int{{0, 1<<63 - 1}}}, api.ErrArg},
		{"a local parity in a group", api.Code{Data: 4, Groups: [][]int{{2, 4}}, Globals: 2}, api.ErrArg},
		{"no such piece", api.Code{Data: 4, Groups: [][]int{{0, 1}, {3, 16}}}, api.ErrArg},
		{"a piece of a group before", api.Code{Data: 4, Groups: [][]int{{0, 1}, {1, 2}}}, api.ErrArg},
		{"a piece of the first of three groups", api.Code{Data: 16, Groups: [][]int{{0, 15}, {1, 2}, {3, 15}}}, api.ErrArg},
		{"a group twice", api.Code{Data: 4, Groups: [][]int{{0}, {0}}}, api.ErrArg},
		{"more groups than pieces", api.Code{Data: 1, Groups: [][]int{{0}, {0}, {0}}}, api.ErrArg},
		{"a very long group", api.Code{Data: 4, Groups: [][]int{slices.Repeat([]int{0, 1, 2, 3}, 1<<20)}}, api.ErrArg},
		{"all pieces, and one more", api.Code{Data: 3, Groups: [][]int{{0, 1, 2, 3}}}, api.ErrArg},
	}
}
