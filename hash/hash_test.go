package hash

import (
	"bytes"
	"crypto/hmac"
	"crypto/sha256"
	"encoding/hex"
	"math"
	"math/rand"
	"slices"
	"strings"
	"testing"

	"quietus/api"
	"quietus/wire"
)

// random returns n bytes, the same ones in each run.
func random(n int) string {
	b := make([]byte, n)
	rand.New(rand.NewSource(int64(n))).Read(b)
	return string(b)
}

// joined returns the encodings of parts, one after the other.
func joined(parts ...string) []byte {
	var b []byte
	for _, p := range parts {
		b = append(b, wire.Bytes(p)...)
	}
	return b
}

// hmacOf returns a keyed hash, as the standard library computes it.
func hmacOf(key string, message []byte) []byte {
	h := hmac.New(sha256.New, []byte(key))
	h.Write(message)
	return h.Sum(nil)
}

// borders are numbers of bytes around the border of one and of several blocks, and around those of the padding.
func borders() []int {
	var l []int
	for n := range 260 {
		l = append(l, n)
	}
	for _, n := range []int{512, 1024, 4096, 65536, 1 << 20} {
		l = append(l, n-65, n-64, n-63, n-10, n-9, n-8, n-7, n-1, n, n+1)
	}
	return l
}

// partLists are lists of parts of which some are easily taken for others.
func partLists() [][]string {
	l := [][]string{nil, {random(63)}, {random(64)}, {random(65)}, {random(5000), "", random(64)}, {"\x02a"}, {"\x00"}, {"a", "\x00", "b"}, {"abc", "d"}, {"ab", "cd"}}
	texts := []string{"", "a", "b", "ab", "\x00", "\x02a", "\x02b"}
	for _, a := range texts {
		for _, b := range texts {
			for _, c := range texts {
				l = append(l, []string{a, b, c})
			}
			l = append(l, []string{a, b})
		}
		l = append(l, []string{a}, []string{a, "", "", "", ""})
	}
	slices.SortFunc(l, slices.Compare)
	return slices.CompactFunc(l, slices.Equal)
}

func TestSumExamples(t *testing.T) {
	for _, x := range []struct{ text, want string }{
		{"", "e3b0c44298fc1c149afbf4c8996fb92427ae41e4649b934ca495991b7852b855"},
		{"abc", "ba7816bf8f01cfea414140de5dae2223b00361a396177a9cb410ff61f20015ad"},
		{"abcdbcdecdefdefgefghfghighijhijkijkljklmklmnlmnomnopnopq", "248d6a61d20638b8e5c026930c3e6039a33ce45964ff2167f6ecedd419db06c1"},
		{strings.Repeat("a", 1000000), "cdc76e5c9914fb9281a1c7e284d73e67f1809a48a497200e046d39ccc7112cd0"},
	} {
		s := Begin().Add(x.text)
		a, b, c := Sum([]byte(x.text)), s.Sum(), s.Sum()
		if hex.EncodeToString(a[:]) != x.want || b != a || c != a {
			t.Errorf("P2.1: %.20q: %x %x %x", x.text, a, b, c)
		}
	}
	if Sum(nil) != Sum([]byte{}) || Begin().Sum() != Sum(nil) || Begin().Add("").Sum() != Sum(nil) {
		t.Error("P2.1: no bytes")
	}
}

func TestSum(t *testing.T) {
	for _, n := range borders() {
		for _, text := range []string{random(n), strings.Repeat("\x00", n), strings.Repeat("\xff", n), strings.Repeat("\x80", n)} {
			b := []byte(text)
			want := sha256.Sum256(b)
			if s := Sum(b); s != want {
				t.Fatalf("P2.1: Sum of %d bytes: %x, not %x", n, s, want)
			}
			if string(b) != text {
				t.Fatal("DOC.md, Memory: an argument was modified")
			}
			if s := Begin().Add(text).Sum(); s != want {
				t.Fatalf("P2.1: a stream of %d bytes: %x, not %x", n, s, want)
			}
		}
	}
}

// TestLongStream hashes a message whose length in bits has more than 32 binary digits.
func TestLongStream(t *testing.T) {
	if testing.Short() {
		t.Skip("long")
	}
	part := random(1 << 22)
	s, h := Begin(), sha256.New()
	for range 1 << 7 {
		s = s.Add(part)
		h.Write([]byte(part))
	}
	s = s.Add("end")
	h.Write([]byte("end"))
	if sum := s.Sum(); !bytes.Equal(sum[:], h.Sum(nil)) {
		t.Errorf("P2.1: %x, not %x", sum, h.Sum(nil))
	}
}

func TestStreamsDoNotChange(t *testing.T) {
	for _, n := range []int{0, 1, 55, 56, 63, 64, 65, 119, 120, 128, 1000} {
		start := random(n)
		s := Begin().Add(start)
		old := s
		for _, more := range []string{"", "x", "y", random(7), random(8), random(9), random(63), random(64), random(200)} {
			want := sha256.Sum256([]byte(start + more))
			longer := s.Add(more)
			if longer.Sum() != want || s.Add(more).Sum() != want {
				t.Fatal("P2.1: streams that continue the same one:", n, len(more))
			}
			if longer.Add("z").Sum() != sha256.Sum256([]byte(start+more+"z")) {
				t.Fatal("P2.1: a stream that is continued after its Sum:", n, len(more))
			}
			if s != old || s.Sum() != sha256.Sum256([]byte(start)) {
				t.Fatal("P2.1: a stream has changed:", n, len(more))
			}
		}
	}
}

func TestPiecesOfStreams(t *testing.T) {
	text := random(200)
	for n := range len(text) + 1 {
		want := sha256.Sum256([]byte(text[:n]))
		bytewise := Begin()
		for i := range n {
			bytewise = bytewise.Add(text[i : i+1])
		}
		if bytewise.Sum() != want {
			t.Fatal("P2.5: byte by byte:", n)
		}
		for i := range n + 1 {
			if Begin().Add(text[:i]).Add("").Add(text[i:n]).Sum() != want {
				t.Fatal("P2.5: two pieces:", i, n)
			}
		}
	}
	r := rand.New(rand.NewSource(1))
	for range 300 {
		text := random(r.Intn(3000))
		s, rest := Begin(), text
		for len(rest) > 0 {
			k := r.Intn(min(len(rest), 150) + 1)
			s, rest = s.Add(rest[:k]), rest[k:]
		}
		if s.Sum() != sha256.Sum256([]byte(text)) {
			t.Fatal("P2.5: pieces of", len(text), "bytes")
		}
	}
}

func TestOf(t *testing.T) {
	if d := Of(1); hex.EncodeToString(d[:]) != "4bf5122f344554c53bde2ebb8cd2b7e3" {
		t.Errorf("P2.2: Of(1): %x", d)
	}
	for _, x := range []struct {
		tag  int
		want byte
	}{
		{0, 0}, {1, 1}, {127, 127}, {128, 128}, {254, 254}, {255, 255},
		{256, 0}, {257, 1}, {511, 255}, {512, 0}, {1000, 232}, {math.MaxInt, 255}, {math.MaxInt - 255, 0},
		{-1, 255}, {-2, 254}, {-128, 128}, {-255, 1}, {-256, 0}, {-257, 255}, {math.MinInt, 0}, {math.MinInt + 1, 1},
	} {
		for _, parts := range partLists() {
			want := sha256.Sum256(append([]byte{x.want}, joined(parts...)...))
			if d := Of(x.tag, parts...); d != api.Digest(want[:16]) {
				t.Fatalf("P2.2: tag %d, parts %.20q: %x, not %x", x.tag, parts, d, want[:16])
			}
		}
	}
	for _, n := range borders() {
		want := sha256.Sum256(append([]byte{9}, joined(random(n), "end")...))
		if d := Of(9, random(n), "end"); d != api.Digest(want[:16]) {
			t.Fatal("P2.2: a part of", n, "bytes")
		}
	}
	for tag := -300; tag < 600; tag++ {
		if Of(tag, "x") != Of((tag%256+256)%256, "x") {
			t.Fatal("P2.2: tag", tag)
		}
	}
}

func TestPartsDoNotChange(t *testing.T) {
	parts := []string{"a", "", random(100)}
	old := slices.Clone(parts)
	Of(1, parts...)
	Mac("key", parts...)
	if !slices.Equal(parts, old) {
		t.Error("DOC.md, Memory: an argument was modified")
	}
	if Of(1, parts...) != Of(1, "a", "", random(100)) || Of(1) != Of(1, nil...) || Of(1, []string{}...) != Of(1) || Mac("k") != Mac("k", nil...) {
		t.Error("P2.2, P2.4: a list of parts, and the same parts one by one")
	}
}

func TestInputsDiffer(t *testing.T) {
	digests := map[api.Digest]bool{}
	macs := map[api.Digest]bool{}
	for _, parts := range partLists() {
		for _, tag := range []int{0, 1, 2, 97, 128, 255} {
			d := Of(tag, parts...)
			if digests[d] {
				t.Fatalf("P2.6: tag %d, parts %.20q", tag, parts)
			}
			digests[d] = true
		}
		m := Mac("key", parts...)
		if macs[m] {
			t.Fatalf("P2.6: Mac of %.20q", parts)
		}
		macs[m] = true
	}
	clear(digests)
	for tag := range 256 {
		digests[Of(tag)] = true
		digests[Of(tag, "")] = true
	}
	if len(digests) != 512 {
		t.Error("P2.6: tags from 0 to 255:", len(digests))
	}
}
