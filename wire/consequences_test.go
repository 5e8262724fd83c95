package wire

import (
	"bytes"
	"math"
	"math/rand"
	"runtime"
	"slices"
	"strings"
	"testing"

	"quietus/api"
)

// samples are values of all kinds for the consequences, the same ones in each run.
type samples struct {
	texts   []string
	ints    [][]int
	lists   [][]string
	digests [][]api.Digest
}

func sampled() samples {
	r := rand.New(rand.NewSource(1))
	s := samples{texts: []string{"", "a", "\x80\x00", strings.Repeat("\xff", 63), strings.Repeat("q", 64)}, ints: [][]int{nil, {math.MinInt}, {math.MaxInt, 0}}, lists: [][]string{nil, {""}, {"", ""}}, digests: [][]api.Digest{nil, {{}}}}
	for range 200 {
		b := make([]byte, r.Intn(150))
		r.Read(b)
		s.texts = append(s.texts, string(b))
		var l []int
		var m []string
		var d []api.Digest
		for range r.Intn(70) {
			l = append(l, int(r.Uint64())>>r.Intn(64))
			m = append(m, strings.Repeat("\x80", r.Intn(70)))
		}
		for range r.Intn(5) {
			var x api.Digest
			r.Read(x[:])
			d = append(d, x)
		}
		s.ints, s.lists, s.digests = append(s.ints, l), append(s.lists, m), append(s.digests, d)
	}
	return s
}

// follows says whether an encoding is decoded, whatever follows it, and whether none of its proper prefixes is.
func follows(b []byte, decoded func([]byte) (bool, int, api.Errno)) bool {
	for _, more := range [][]byte{nil, {0}, {1}, {128}, {255, 255}, b} {
		same, used, e := decoded(slices.Concat(b, more))
		if !same || used != len(b) || e != api.OK {
			return false
		}
	}
	for i := range b {
		if _, used, e := decoded(b[:i]); used != 0 || e != api.ErrTruncated {
			return false
		}
	}
	return true
}

func TestRoundTrips(t *testing.T) {
	for _, n := range edges() {
		if !follows(Int(n), func(b []byte) (bool, int, api.Errno) { m, used, e := GetInt(b); return m == n, used, e }) {
			t.Fatal("P1.6: Int", n)
		}
	}
	s := sampled()
	for _, x := range s.texts {
		if !follows(Bytes(x), func(b []byte) (bool, int, api.Errno) { y, used, e := GetBytes(b); return y == x, used, e }) {
			t.Fatalf("P1.6: Bytes %q", x)
		}
	}
	for _, x := range s.ints {
		if !follows(Ints(x), func(b []byte) (bool, int, api.Errno) { y, used, e := GetInts(b); return slices.Equal(x, y), used, e }) {
			t.Fatal("P1.6: Ints", x)
		}
	}
	for _, x := range s.lists {
		if !follows(Strings(x), func(b []byte) (bool, int, api.Errno) { y, used, e := GetStrings(b); return slices.Equal(x, y), used, e }) {
			t.Fatalf("P1.6: Strings %q", x)
		}
	}
	for _, x := range s.digests {
		if !follows(Digests(x), func(b []byte) (bool, int, api.Errno) { y, used, e := GetDigests(b); return slices.Equal(x, y), used, e }) {
			t.Fatal("P1.6: Digests", x)
		}
	}
}

func TestLengths(t *testing.T) {
	l := edges()
	for _, n := range l {
		k := len(Int(n))
		if k < 1 || k > 10 || (k == 1) != (-64 <= n && n <= 63) || k != len(Int(-1-n)) {
			t.Fatal("P1.7:", n, k)
		}
	}
	l = slices.DeleteFunc(l, func(n int) bool { return n < 0 })
	slices.Sort(l)
	for i := 1; i < len(l); i++ {
		if len(Int(l[i-1])) > len(Int(l[i])) || len(Int(-1-l[i-1])) > len(Int(l[i])) {
			t.Fatal("P1.7:", l[i-1], l[i])
		}
	}
}

// TestArguments checks that arguments are not modified, and that results share no memory with them.
func TestArguments(t *testing.T) {
	b := slices.Concat(Bytes("xy"), Strings([]string{"ab", "c"}), Digests([]api.Digest{{7}}))
	old := slices.Clone(b)
	s, i, _ := GetBytes(b)
	l, j, _ := GetStrings(b[i:])
	d, _, _ := GetDigests(b[i+j:])
	if !bytes.Equal(b, old) {
		t.Error("DOC.md, Memory: an argument was modified")
	}
	clear(b)
	if s != "xy" || !slices.Equal(l, []string{"ab", "c"}) || !slices.Equal(d, []api.Digest{{7}}) {
		t.Errorf("P1.5: results share memory with b: %q %q %v", s, l, d)
	}
	ints, digests := []int{1, 2}, []api.Digest{{7}}
	x, y := Ints(ints), Digests(digests)
	clear(x)
	clear(y)
	if !slices.Equal(ints, []int{1, 2}) || !slices.Equal(digests, []api.Digest{{7}}) || !bytes.Equal(Ints(ints), []byte{4, 2, 4}) || Digests(digests)[1] != 7 {
		t.Error("P1.4: results share memory")
	}
	v, _, _ := GetInts([]byte{4, 2, 4})
	w, _, _ := GetInts([]byte{4, 2, 4})
	v[0] = 9
	if w[0] != 1 {
		t.Error("P1.5: results share memory")
	}
}

// allocated is the number of bytes for which f asks.
func allocated(f func()) int {
	var before, after runtime.MemStats
	runtime.ReadMemStats(&before)
	f()
	runtime.ReadMemStats(&after)
	return int(after.TotalAlloc - before.TotalAlloc)
}

func TestMemory(t *testing.T) {
	const n = 1 << 20
	zeros := append(Int(n), make([]byte, n)...)
	bad := append(Int(n), full(n)...)
	short := append(Int(1<<40), make([]byte, n)...)
	huge := append(Int(math.MaxInt), make([]byte, n)...)
	many := append(Int(n/16), make([]byte, n)...)
	for i, b := range [][]byte{zeros, bad, short, huge, many} {
		for j, f := range []func(){func() { GetInt(b) }, func() { GetBytes(b) }, func() { GetInts(b) }, func() { GetStrings(b) }, func() { GetDigests(b) }} {
			if k := allocated(f); k > 64*len(b) {
				t.Error("P1.5: too much memory:", i, j, k)
			}
		}
	}
	for _, b := range [][]byte{short, huge} {
		if k := allocated(func() { GetBytes(b); GetInts(b); GetStrings(b); GetDigests(b) }); k > 1<<16 {
			t.Error("P1.5: memory for elements that are not there:", k)
		}
	}
}

// TestRandom checks that no function panics, and that what is decoded is encoded in the same way, for sequences of any bytes.
func TestRandom(t *testing.T) {
	r := rand.New(rand.NewSource(2))
	for range 100000 {
		b := make([]byte, r.Intn(60))
		r.Read(b)
		if len(b) > 0 && r.Intn(2) == 0 {
			b[0] = byte(r.Intn(12))
		}
		n, i, e := GetInt(b)
		s, j, f := GetBytes(b)
		l, k, g := GetInts(b)
		m, o, h := GetStrings(b)
		d, p, q := GetDigests(b)
		if e == api.OK && !bytes.Equal(Int(n), b[:i]) || f == api.OK && !bytes.Equal(Bytes(s), b[:j]) || g == api.OK && !bytes.Equal(Ints(l), b[:k]) || h == api.OK && !bytes.Equal(Strings(m), b[:o]) || q == api.OK && !bytes.Equal(Digests(d), b[:p]) {
			t.Fatal("P1, P1.6:", b)
		}
	}
}
