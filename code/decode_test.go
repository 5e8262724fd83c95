package code_test

import (
	"math"
	"math/rand"
	"slices"
	"testing"

	"quietus/api"
	"quietus/code"
)

func TestRecoverable(t *testing.T) {
	c := example()
	for _, x := range []struct {
		lost int
		want bool
	}{{0, true}, {1<<0 | 1<<1, true}, {1<<0 | 1<<1 | 1<<2, true}, {1<<0 | 1<<1 | 1<<6, false}, {1<<0 | 1<<4 | 1<<6, false}, {1<<4 | 1<<5 | 1<<6, true}, {127, false}} {
		if got := code.Recoverable(c, 127&^x.lost); got != x.want {
			t.Error("P7.4: Recoverable with C, without", x.lost, got)
		}
	}
	for _, mask := range []int{-1, -128, 128, 128 | 127, 1 << 24, 1<<24 | 127, 1 << 62, 1<<62 | 127, math.MinInt, math.MinInt | 127, math.MaxInt} {
		if code.Recoverable(c, mask) {
			t.Error("P7.4: Recoverable from what is no set of pieces:", mask)
		}
	}
	for _, x := range badCodes() {
		for _, mask := range []int{0, 1, 15, 127, 1<<24 - 1, -1, math.MaxInt} {
			if code.Recoverable(x.c, mask) {
				t.Error("P7.4: Recoverable with", x.name, mask)
			}
		}
	}
}

// TestRecoverableSets compares all sets of pieces of small codes, and some of great ones, with the rank of their rows.
func TestRecoverableSets(t *testing.T) {
	r := rand.New(rand.NewSource(4))
	seen := map[bool]int{}
	check := func(c api.Code, mask int) {
		want := wantRecoverable(c, mask)
		seen[want]++
		if code.Recoverable(c, mask) != want {
			t.Fatal("P7.4: Recoverable with", c, "from", mask, !want)
		}
	}
	for range 60 {
		c := anyCode(r, 4)
		for mask := range 1 << wantPieces(c) {
			check(c, mask)
		}
	}
	for range 1500 {
		c := anyCode(r, api.MaxData)
		mask := without(r, c, r.Intn(8))
		check(c, mask)
		check(c, mask>>r.Intn(4))
	}
	for _, c := range []api.Code{regular(16, 4, 4), regular(16, 8, 0), regular(10, 10, 4), regular(12, 12, 0), regular(16, 1, 4)} {
		for range 300 {
			check(c, r.Intn(1<<wantPieces(c)))
			check(c, without(r, c, 5))
			check(c, without(r, c, 3)>>c.Data<<c.Data|r.Intn(2)<<r.Intn(c.Data))
		}
	}
	for _, c := range []api.Code{regular(16, 4, 4), {Data: 16, Groups: [][]int{{15}}, Globals: 4}, {Data: 12, Groups: singles(12)}, {Data: 10, Groups: singles(10), Globals: 4}} {
		check(c, 1<<wantPieces(c)-1<<c.Data) // no data piece at all
	}
	if seen[true] < 1000 || seen[false] < 1000 {
		t.Error("too few cases:", seen)
	}
}

func TestDecode(t *testing.T) {
	c, data := example(), "\x01\x02\x03\x04\x05\x06\x07"
	pieces := wantEncode(c, data)
	from := func(set ...int) int {
		mask := 0
		for _, k := range set {
			mask |= 1 << k
		}
		return mask
	}
	other := slices.Clone(pieces)
	other[5] = "\x02\x07"
	filled := slices.Clone(pieces)
	filled[3] = "\x07\x01"
	for _, x := range []struct {
		name    string
		n, mask int
		pieces  []string
		want    string
		e       api.Errno
	}{
		{"from the pieces 1, 2, 3, 4", 7, from(1, 2, 3, 4), pieces, data, api.OK},
		{"from 2, 3, 4, 5", 7, from(2, 3, 4, 5), pieces, "", api.ErrLost},
		{"from all", 7, 127, pieces, data, api.OK},
		{"from all, with another byte in the piece 5", 7, 127, other, "", api.ErrCorrupt},
		{"without the piece 5, which is another one", 7, 127 &^ (1 << 5), other, data, api.OK},
		{"of 8 bytes", 8, 127, pieces, data + "\x00", api.OK},
		{"of 6 bytes, where there are 7", 6, 127, pieces, "", api.ErrCorrupt},
		{"of 4 bytes, where there are 7", 4, 127, pieces, "", api.ErrArg},
		{"of 9 bytes, where there are 7", 9, 127, pieces, "", api.ErrArg},
		{"a byte behind the end", 7, from(0, 1, 2, 3), filled, "", api.ErrCorrupt},
		{"a byte at the end", 8, from(0, 1, 2, 3), filled, data + "\x01", api.OK},
		{"a byte behind the end, from parities", 7, from(0, 2, 4, 6), wantEncode(c, data+"\x01"), "", api.ErrCorrupt},
		{"from no piece", 7, 0, pieces, "", api.ErrLost},
		{"no bytes, from no piece", 0, 0, make([]string, 7), "", api.ErrLost},
		{"no bytes, from too few pieces", 0, from(0, 1, 2), make([]string, 7), "", api.ErrLost},
		{"no bytes", 0, 127, make([]string, 7), "", api.OK},
		{"no bytes, from pieces with bytes", 0, 127, pieces, "", api.ErrArg},
	} {
		if got, e := code.Decode(c, x.n, x.mask, x.pieces); got != x.want || e != x.e {
			t.Errorf("P7.5: Decode with C, %s: %q %d", x.name, got, e)
		}
	}
	if got, e := code.Decode(api.Code{Data: 3}, 1, 7, []string{"a", "\x00", "b"}); got != "" || e != api.ErrCorrupt {
		t.Errorf("P7.5: Decode of a byte, from other pieces that are not 0: %q %d", got, e)
	}
	if got, e := code.Decode(api.Code{Data: 1, Globals: 1}, 3, 2, []string{"", "abc"}); got != "abc" || e != api.OK {
		t.Errorf("P7.5: Decode from a global parity alone: %q %d", got, e)
	}
}

// TestDecodeErrors checks each error, and their order.
func TestDecodeErrors(t *testing.T) {
	c := example()
	pieces := wantEncode(c, "\x01\x02\x03\x04\x05\x06\x07")
	with := func(k int, piece string) []string {
		p := slices.Clone(pieces)
		p[k] = piece
		return p
	}
	for _, x := range []struct {
		name    string
		n, mask int
		pieces  []string
		want    api.Errno
	}{
		{"a negative number of bytes", -1, 127, pieces, api.ErrArg},
		{"the least number of bytes", math.MinInt, 127, pieces, api.ErrArg},
		{"the greatest number of bytes", math.MaxInt, 127, pieces, api.ErrArg},
		{"too many bytes", api.MaxChunk + 1, 127, slices.Repeat([]string{string(make([]byte, 1025))}, 7), api.ErrArg},
		{"too many bytes, with pieces of a chunk of as many as there may be", api.MaxChunk + 1, 127, slices.Repeat([]string{string(make([]byte, 1024))}, 7), api.ErrArg},
		{"a negative number of bytes, and none in the pieces", -1, 127, make([]string, 7), api.ErrArg},
		{"a negative set", 7, -1, pieces, api.ErrArg},
		{"the least number as a set", 7, math.MinInt, pieces, api.ErrArg},
		{"the greatest number as a set", 7, math.MaxInt, pieces, api.ErrArg},
		{"a set with the piece 7", 7, 128, pieces, api.ErrArg},
		{"a set with the piece 7, which has an entry", 7, 255, append(slices.Clone(pieces), "ab"), api.ErrArg},
		{"no entry", 7, 127, nil, api.ErrArg},
		{"no entry, and an empty set", 7, 0, nil, api.ErrArg},
		{"an entry too few", 7, 63, pieces[:6], api.ErrArg},
		{"an entry too many", 7, 127, append(slices.Clone(pieces), "ab"), api.ErrArg},
		{"an empty entry too many", 7, 127, append(slices.Clone(pieces), ""), api.ErrArg},
		{"very many entries", 7, 127, make([]string, 1<<20), api.ErrArg},
		{"a short piece", 7, 127, with(6, "a"), api.ErrArg},
		{"an empty piece", 7, 127, with(0, ""), api.ErrArg},
		{"a long piece", 7, 127, with(3, "abc"), api.ErrArg},
		{"a long parity", 7, 127, with(4, pieces[4]+"\x00"), api.ErrArg},
		{"a long piece that is not in the set", 7, 127 &^ 8, with(3, "abc"), api.OK},
		{"an empty parity that is not in the set", 7, 127 &^ 64, with(6, ""), api.OK},
		{"a short piece, of a set that is not recoverable", 7, 3, with(1, "a"), api.ErrArg},
		{"a set that is not recoverable, with another piece", 7, 0b1010011, with(4, "ab"), api.ErrLost},
		{"a set that is not recoverable", 7, 0b0110011, pieces, api.ErrLost},
		{"another piece", 7, 127, with(4, "\x02\x07"), api.ErrCorrupt},
	} {
		data, e := code.Decode(c, x.n, x.mask, x.pieces)
		if e != x.want || e != api.OK && data != "" {
			t.Errorf("P7.5: Decode, %s: %q %d", x.name, data, e)
		}
	}
	for _, x := range badCodes() {
		for _, n := range []int{-1, 0, 7, api.MaxChunk + 1} {
			for _, p := range [][]string{nil, pieces, make([]string, 24)} {
				if data, e := code.Decode(x.c, n, 127-n, p); data != "" || e != x.want {
					t.Error("P7.5: Decode with", x.name, len(data), e)
				}
			}
		}
	}
}

// TestDecodeAnyPieces compares Decode of any pieces with the solution of all equations between them.
func TestDecodeAnyPieces(t *testing.T) {
	r := rand.New(rand.NewSource(5))
	seen := map[api.Errno]int{}
	for k := range 20000 {
		c, n := anyCode(r, 2+r.Intn(15)), r.Intn(30)
		if k%1000 == 0 {
			n = api.MaxChunk - r.Intn(2)*r.Intn(20)
		}
		full := wantSize(c, n) * c.Data
		mask := without(r, c, r.Intn(6))
		pieces := wantEncode(c, noise(r, n))
		switch r.Intn(4) {
		case 0:
			pieces = wantEncode(c, noise(r, full))
		case 1:
			for range r.Intn(3) + 1 {
				if k := r.Intn(len(pieces)); n > 0 {
					pieces[k] = spoilt(pieces[k], r.Intn(len(pieces[k])), uint8(r.Intn(256)))
				}
			}
		}
		if r.Intn(20) == 0 {
			pieces[r.Intn(len(pieces))] += "a"
		}
		pieces = only(r, pieces, mask)
		want, f := wantDecode(c, n, mask, pieces)
		seen[f]++
		if data, e := code.Decode(c, n, mask, pieces); data != want || e != f {
			t.Fatalf("P7.5: Decode with %v of %d bytes from %b, %q: %q %d, and not %q %d", c, n, mask, pieces, data, e, want, f)
		}
	}
	for _, e := range []api.Errno{api.OK, api.ErrArg, api.ErrLost, api.ErrCorrupt} {
		if seen[e] < 300 {
			t.Error("too few cases:", e, seen[e])
		}
	}
}

// TestDecodeSearch tries all chunks of at most two bytes: those that have the pieces are the result, and there is at most one of them if the set is recoverable.
func TestDecodeSearch(t *testing.T) {
	r := rand.New(rand.NewSource(6))
	for _, c := range []api.Code{{Data: 1, Groups: [][]int{{0}}, Globals: 2}, {Data: 2, Groups: [][]int{{0, 1}}, Globals: 1}, {Data: 3, Groups: [][]int{{1, 2}}}, {Data: 2, Groups: [][]int{{1}, {0}}}} {
		for n := range 3 {
			var all [][]string
			for k := range 1 << (8 * n) {
				all = append(all, wantEncode(c, string([]byte{byte(k), byte(k >> 8)}[:n])))
			}
			for mask := range 1 << wantPieces(c) {
				pieces := only(r, all[r.Intn(len(all))], mask)
				if k := r.Intn(len(pieces)); r.Intn(2) == 0 && mask>>k&1 == 1 && pieces[k] != "" {
					pieces[k] = spoilt(pieces[k], 0, uint8(1+r.Intn(255)))
				}
				var found []int
				for k, p := range all {
					if same(p, pieces, mask) {
						found = append(found, k)
					}
				}
				data, e := code.Decode(c, n, mask, pieces)
				right := false
				switch e {
				case api.OK:
					right = len(found) == 1 && len(data) == n && same(wantEncode(c, data), pieces, mask)
				case api.ErrCorrupt:
					right = len(found) == 0
				case api.ErrLost: // where nothing is filled up, the set fits several chunks, or none
					right = n%c.Data > 0 || n == 0 || len(found) != 1
				}
				if !right || (e == api.ErrLost) == wantRecoverable(c, mask) {
					t.Fatalf("P7.5: Decode with %v of %d bytes from %b, %q: %q %d, where these fit: %d", c, n, mask, pieces, data, e, found)
				}
			}
		}
	}
}

// same says whether two lists have the same pieces of a set.
func same(a, b []string, mask int) bool {
	for k := range a {
		if mask>>k&1 == 1 && a[k] != b[k] {
			return false
		}
	}
	return true
}

func TestDistance(t *testing.T) {
	for _, x := range []struct {
		c    api.Code
		want int
	}{
		{example(), 3}, {api.Code{Data: 1}, 1}, {api.Code{Data: 16}, 1}, {api.Code{Data: 1, Groups: [][]int{{0}}}, 2}, {api.Code{Data: 1, Globals: 4}, 5}, {api.Code{Data: 1, Groups: [][]int{{0}}, Globals: 4}, 6}, {api.Code{Data: 3, Groups: [][]int{{0, 1}}}, 1}, {api.Code{Data: 3, Groups: [][]int{{0, 1}}, Globals: 1}, 2}, {api.Code{Data: 16, Globals: 1}, 2}, {regular(16, 4, 4), 6}, {regular(10, 10, 4), 6}, {regular(16, 8, 0), 2}, {regular(16, 1, 4), 5},
	} {
		if n, e := code.Distance(x.c); n != x.want || e != api.OK {
			t.Error("P7.6: Distance of", x.c, n, e)
		}
	}
	for _, x := range badCodes() {
		if n, e := code.Distance(x.c); n != 0 || e != x.want {
			t.Error("P7.6: Distance of", x.name, n, e)
		}
	}
	r := rand.New(rand.NewSource(7))
	for range 60 {
		c := anyCode(r, 5)
		if n, e := code.Distance(c); n != wantDistance(c) || e != api.OK {
			t.Error("P7.6: Distance of", c, n, e)
		}
	}
}

// TestDistanceOfGreatCodes compares Distance with the lost pieces whose columns of the check matrix depend on one another.
func TestDistanceOfGreatCodes(t *testing.T) {
	r := rand.New(rand.NewSource(8))
	for range 12 {
		c := anyCode(r, api.MaxData)
		if n, e := code.Distance(c); n != dependent(c) || e != api.OK {
			t.Error("P7.6: Distance of", c, n, e, "and not", dependent(c))
		}
	}
}

// dependent is the least number of columns of the check matrix of a code that are not linearly independent: the row of each parity says that the sum of the data pieces and itself is 0.
func dependent(c api.Code) int {
	rows := wantRows(c)
	columns := make([][]uint8, len(rows))
	for k := range columns {
		columns[k] = make([]uint8, len(rows)-c.Data)
		for p := range columns[k] {
			switch {
			case k < c.Data:
				columns[k][p] = rows[c.Data+p][k]
			case k == c.Data+p:
				columns[k][p] = 1
			}
		}
	}
	for many := 1; ; many++ {
		if among(columns, many, 0, nil) {
			return many
		}
	}
}

// among says whether so many further columns, from a place on, depend on one another together with those that are taken.
func among(columns [][]uint8, many, from int, taken [][]uint8) bool {
	if many == 0 {
		m := make([][]uint8, len(taken))
		for k := range m {
			m[k] = slices.Clone(taken[k])
		}
		return len(m[0]) == 0 || eliminate(m, len(m[0])) < len(m)
	}
	for k := from; k < len(columns); k++ {
		if among(columns, many-1, k+1, append(taken, columns[k])) {
			return true
		}
	}
	return false
}
