package wire

import (
	"bytes"
	"math"
	"math/big"
	"slices"
	"strings"
	"testing"

	"quietus/api"
)

// full returns n times the byte 255, and some further bytes.
func full(n int, more ...byte) []byte { return append(bytes.Repeat([]byte{255}, n), more...) }

// edges are integers around all powers of two, and all those near 0.
func edges() []int {
	l := []int{math.MinInt, math.MinInt + 1, math.MaxInt, math.MaxInt - 1}
	for k := range 63 {
		for d := -2; d <= 2; d++ {
			l = append(l, 1<<k+d, -(1<<k)+d)
		}
	}
	for n := -20000; n <= 20000; n++ {
		l = append(l, n)
	}
	return l
}

// written is Int as P1.1 describes it, in numbers without a bound.
func written(n int) []byte {
	z := new(big.Int).Mul(big.NewInt(2), big.NewInt(int64(n)))
	if n < 0 {
		z.Neg(z).Sub(z, big.NewInt(1))
	}
	var b []byte
	base, digit := big.NewInt(128), new(big.Int)
	for {
		z.DivMod(z, base, digit)
		b = append(b, byte(digit.Int64()))
		if z.Sign() == 0 {
			break
		}
	}
	for i := range len(b) - 1 {
		b[i] += 128
	}
	return b
}

// sequences calls try with all sequences of at most n bytes of an alphabet.
func sequences(alphabet []byte, n int, try func([]byte)) {
	var grow func(b []byte)
	grow = func(b []byte) {
		try(b)
		if len(b) < n {
			for _, c := range alphabet {
				grow(append(slices.Clone(b), c))
			}
		}
	}
	grow(nil)
}

func TestInt(t *testing.T) {
	for _, x := range []struct {
		n    int
		want []byte
	}{
		{0, []byte{0}}, {1, []byte{2}}, {63, []byte{126}}, {64, []byte{128, 1}}, {8192, []byte{128, 128, 1}},
		{-1, []byte{1}}, {-64, []byte{127}}, {-65, []byte{129, 1}},
		{8191, []byte{254, 127}}, {-8192, []byte{255, 127}}, {-8193, []byte{129, 128, 1}},
		{math.MaxInt, append([]byte{254}, full(8, 1)...)}, {math.MinInt, full(9, 1)},
	} {
		if b := Int(x.n); !bytes.Equal(b, x.want) {
			t.Error("P1.1:", x.n, b)
		}
	}
	for _, n := range edges() {
		if b := Int(n); !bytes.Equal(b, written(n)) {
			t.Fatal("P1.1:", n, b)
		}
	}
}

func TestGetInt(t *testing.T) {
	for _, x := range []struct {
		b    []byte
		n    int
		used int
		e    api.Errno
	}{
		{nil, 0, 0, api.ErrTruncated},
		{[]byte{}, 0, 0, api.ErrTruncated},
		{[]byte{128}, 0, 0, api.ErrTruncated},
		{full(9), 0, 0, api.ErrTruncated},
		{bytes.Repeat([]byte{128}, 9), 0, 0, api.ErrTruncated},
		{full(10), 0, 0, api.ErrEncoding},
		{full(11), 0, 0, api.ErrEncoding},
		{full(10, 0), 0, 0, api.ErrEncoding},
		{full(10, 1), 0, 0, api.ErrEncoding},
		{full(9, 0), 0, 0, api.ErrEncoding},
		{full(9, 2), 0, 0, api.ErrEncoding},
		{full(9, 127), 0, 0, api.ErrEncoding},
		{full(8, 0), 0, 0, api.ErrEncoding},
		{[]byte{128, 0}, 0, 0, api.ErrEncoding},
		{[]byte{255, 128, 0, 1}, 0, 0, api.ErrEncoding},
		{[]byte{0}, 0, 1, api.OK},
		{[]byte{0, 0}, 0, 1, api.OK},
		{[]byte{1, 128}, -1, 1, api.OK},
		{[]byte{128, 1, 0}, 64, 2, api.OK},
		{full(8, 127), -1 << 62, 9, api.OK},
		{full(9, 1), math.MinInt, 10, api.OK},
		{append(bytes.Repeat([]byte{128}, 9), 1), 1 << 62, 10, api.OK},
		{append([]byte{254}, full(8, 1, 1)...), math.MaxInt, 10, api.OK},
	} {
		if n, used, e := GetInt(x.b); n != x.n || used != x.used || e != x.e {
			t.Error("P1.2:", x.b, n, used, e)
		}
	}
}

// TestGetIntAll holds GetInt against P1.2, read word for word, for sequences of bytes of all lengths around the bound.
func TestGetIntAll(t *testing.T) {
	known := map[string]int{}
	for _, n := range edges() {
		known[string(Int(n))] = n
	}
	try := func(b []byte) {
		n, used, e := GetInt(b)
		end := slices.IndexFunc(b[:min(10, len(b))], func(c byte) bool { return c < 128 })
		want := api.OK
		switch {
		case end < 0 && len(b) >= 10:
			want = api.ErrEncoding
		case end < 0:
			want = api.ErrTruncated
		case end == 9 && b[9] > 1 || end > 0 && b[end] == 0:
			want = api.ErrEncoding
		}
		switch {
		case e != want:
			t.Fatal("P1.2:", b, e, want)
		case e != api.OK && (n != 0 || used != 0):
			t.Fatal("P1.2: an error with a result:", b, n, used)
		case e == api.OK && (used != end+1 || !bytes.Equal(written(n), b[:used])):
			t.Fatal("P1.2, P1.6:", b, n, used)
		}
		if m, ok := known[string(b)]; ok && (e != api.OK || n != m) {
			t.Fatal("P1.2:", b, n, m, e)
		}
	}
	all := make([]byte, 256)
	for i := range all {
		all[i] = byte(i)
	}
	sequences(all, 2, try)
	sequences([]byte{0, 1, 2, 126, 127, 128, 129, 254, 255}, 4, try)
	for _, c := range []byte{128, 129, 200, 255} {
		for n := range 12 {
			sequences([]byte{0, 1, 2, 3, 127, 128, 255}, 3, func(b []byte) { try(append(bytes.Repeat([]byte{c}, n), b...)) })
		}
	}
	for b := range known {
		try([]byte(b))
	}
}

func TestBytes(t *testing.T) {
	long := strings.Repeat("x", 100)
	for _, x := range []struct {
		s    string
		want []byte
	}{
		{"", []byte{0}}, {"ab", []byte{4, 97, 98}}, {"\x00\xff\x80", []byte{6, 0, 255, 128}}, {long, append([]byte{200, 1}, long...)},
	} {
		if b := Bytes(x.s); !bytes.Equal(b, x.want) {
			t.Errorf("P1.3: %q %v", x.s, b)
		}
		if s, used, e := GetBytes(append(slices.Clone(x.want), 5, 6)); s != x.s || used != len(x.want) || e != api.OK {
			t.Errorf("P1.3: %q %q %d %d", x.s, s, used, e)
		}
	}
	for _, x := range []struct {
		b []byte
		e api.Errno
	}{
		{nil, api.ErrTruncated},               // of the length
		{[]byte{128}, api.ErrTruncated},       // of the length
		{[]byte{128, 0}, api.ErrEncoding},     // of the length
		{full(9, 2), api.ErrEncoding},         // of the length
		{[]byte{1}, api.ErrEncoding},          // -1, before too few bytes
		{[]byte{3, 97, 98}, api.ErrEncoding},  // -2
		{full(9, 1), api.ErrEncoding},         // the least length
		{[]byte{2}, api.ErrTruncated},         // no byte
		{[]byte{6, 97, 98}, api.ErrTruncated}, // one byte too few
		{[]byte{128, 1, 9}, api.ErrTruncated}, // a length of two bytes
		{Int(math.MaxInt), api.ErrTruncated},  // the greatest length
		{Int(1<<62 + 1), api.ErrTruncated},    // with the length itself, or more, too great for an integer
		{Int(math.MaxInt - 8), api.ErrTruncated},
	} {
		if s, used, e := GetBytes(x.b); s != "" || used != 0 || e != x.e {
			t.Errorf("P1.3: %v %q %d %d", x.b, s, used, e)
		}
	}
}

func TestLists(t *testing.T) {
	c, d := api.Digest{1, 2, 3}, api.Digest{15: 255}
	for i, x := range []struct{ b, want []byte }{
		{Ints(nil), []byte{0}},
		{Ints([]int{}), []byte{0}},
		{Ints([]int{1, -1}), []byte{4, 2, 1}},
		{Ints([]int{64, 0, math.MinInt}), append([]byte{6, 128, 1, 0}, full(9, 1)...)},
		{Ints(make([]int, 64)), append([]byte{128, 1}, make([]byte, 64)...)},
		{Strings(nil), []byte{0}},
		{Strings([]string{"", "a"}), []byte{4, 0, 2, 97}},
		{Strings([]string{"\x80b", ""}), []byte{4, 4, 128, 98, 0}},
		{Digests(nil), []byte{0}},
		{Digests([]api.Digest{c, d}), slices.Concat([]byte{4}, c[:], d[:])},
	} {
		if !bytes.Equal(x.b, x.want) {
			t.Error("P1.4:", i, x.b)
		}
	}
}

func TestGetLists(t *testing.T) {
	c, d := api.Digest{1, 2, 3}, api.Digest{15: 255}
	if l, used, e := GetInts([]byte{4, 2, 1, 9}); !slices.Equal(l, []int{1, -1}) || used != 3 || e != api.OK {
		t.Error("P1.5:", l, used, e)
	}
	if l, used, e := GetStrings([]byte{4, 0, 2, 97, 9}); !slices.Equal(l, []string{"", "a"}) || used != 4 || e != api.OK {
		t.Errorf("P1.5: %q %d %d", l, used, e)
	}
	if l, used, e := GetDigests(slices.Concat([]byte{4}, c[:], d[:], []byte{9})); !slices.Equal(l, []api.Digest{c, d}) || used != 33 || e != api.OK {
		t.Error("P1.5:", l, used, e)
	}
}

func TestGetListsOfNothing(t *testing.T) {
	b := []byte{0, 2}
	if l, used, e := GetInts(b); len(l) != 0 || used != 1 || e != api.OK {
		t.Error("P1.5:", l, used, e)
	}
	if l, used, e := GetStrings(b); len(l) != 0 || used != 1 || e != api.OK {
		t.Errorf("P1.5: %q %d %d", l, used, e)
	}
	if l, used, e := GetDigests(b); len(l) != 0 || used != 1 || e != api.OK {
		t.Error("P1.5:", l, used, e)
	}
}

func TestGetListsErrors(t *testing.T) {
	ok, truncated, encoding := api.OK, api.ErrTruncated, api.ErrEncoding
	for _, x := range []struct {
		b                    []byte
		ints, texts, digests api.Errno
	}{
		{nil, truncated, truncated, truncated},
		{[]byte{128}, truncated, truncated, truncated},
		{[]byte{128, 0}, encoding, encoding, encoding},
		{full(9, 2), encoding, encoding, encoding},
		{[]byte{1}, encoding, encoding, encoding},
		{[]byte{3, 0, 0}, encoding, encoding, encoding},
		{full(9, 1), encoding, encoding, encoding},
		{Int(math.MaxInt), truncated, truncated, truncated},
		{Int(1 << 59), truncated, truncated, truncated}, // 16 times as many bytes are too many for an integer
		{Int(1 << 60), truncated, truncated, truncated},
		{[]byte{2}, truncated, truncated, truncated},
		{[]byte{6, 128, 0}, truncated, truncated, truncated}, // too few bytes, before the element
		{[]byte{4, 128, 0}, encoding, encoding, truncated},
		{[]byte{4, 0, 128}, truncated, truncated, truncated},
		{[]byte{4, 2, 128}, truncated, truncated, truncated}, // the text takes the byte 128
		{[]byte{4, 1, 128}, truncated, encoding, truncated},
		{[]byte{4, 0, 1}, ok, encoding, truncated},
		{[]byte{4, 128, 0, 128}, encoding, encoding, truncated}, // the first element decides
		{[]byte{4, 20, 128, 0}, encoding, truncated, truncated},
		{append([]byte{2}, full(9, 2)...), encoding, encoding, truncated},
		{append([]byte{2}, make([]byte, 15)...), ok, ok, truncated},
		{append([]byte{4}, make([]byte, 31)...), ok, ok, truncated},
		{append([]byte{4}, make([]byte, 32)...), ok, ok, ok},
	} {
		l, i, e := GetInts(x.b)
		m, j, f := GetStrings(x.b)
		n, k, g := GetDigests(x.b)
		if e != x.ints || f != x.texts || g != x.digests {
			t.Error("P1.5:", x.b, e, f, g)
		}
		if e != ok && (len(l) != 0 || i != 0) || f != ok && (len(m) != 0 || j != 0) || g != ok && (len(n) != 0 || k != 0) {
			t.Errorf("P1.5: an error with a result: %v: %v %d %q %d %v %d", x.b, l, i, m, j, n, k)
		}
	}
}

// due is the error of a list as P1.5 says it.
func due(b []byte, size int, one func([]byte) (int, api.Errno)) api.Errno {
	n, used, e := GetInt(b)
	b = b[used:]
	switch {
	case e != api.OK:
		return e
	case n < 0:
		return api.ErrEncoding
	case big.NewInt(int64(len(b))).Cmp(new(big.Int).Mul(big.NewInt(int64(n)), big.NewInt(int64(size)))) < 0:
		return api.ErrTruncated
	}
	for range n {
		used, e := one(b)
		if e != api.OK {
			return e
		}
		b = b[used:]
	}
	return api.OK
}

// TestDecodeAll decodes all short sequences of some bytes, and long ones that begin like lists.
func TestDecodeAll(t *testing.T) {
	try := func(b []byte) {
		s, i, e := GetBytes(b)
		l, j, f := GetInts(b)
		m, k, g := GetStrings(b)
		n, o, h := GetDigests(b)
		if e != due(b, 1, func([]byte) (int, api.Errno) { return 1, api.OK }) ||
			f != due(b, 1, func(b []byte) (int, api.Errno) { _, used, e := GetInt(b); return used, e }) ||
			g != due(b, 1, func(b []byte) (int, api.Errno) { _, used, e := GetBytes(b); return used, e }) ||
			h != due(b, 16, func([]byte) (int, api.Errno) { return 16, api.OK }) {
			t.Fatal("P1.3, P1.5:", b, e, f, g, h)
		}
		if e == api.OK && !bytes.Equal(Bytes(s), b[:i]) || f == api.OK && !bytes.Equal(Ints(l), b[:j]) ||
			g == api.OK && !bytes.Equal(Strings(m), b[:k]) || h == api.OK && !bytes.Equal(Digests(n), b[:o]) {
			t.Fatalf("P1.6: %v: %q %d %v %d %q %d %v %d", b, s, i, l, j, m, k, n, o)
		}
	}
	sequences([]byte{0, 1, 2, 4, 6, 127, 128, 129, 255}, 5, try)
	tail := append(full(9, 1, 2, 3, 4), make([]byte, 40)...)
	for _, n := range edges() {
		try(Int(n))
		try(append(Int(n), tail...))
	}
}
