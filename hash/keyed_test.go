package hash

import (
	"bytes"
	"encoding/hex"
	"math"
	"strings"
	"testing"

	"quietus/api"
	"quietus/wire"
)

// keys have all lengths up to three blocks, and some more.
func keys() []string {
	var l []string
	for n := range 193 {
		l = append(l, random(n))
	}
	return append(l, random(1000), random(5000), strings.Repeat("\x00", 64), strings.Repeat("\x00", 65), strings.Repeat("\x5c", 64), strings.Repeat("\x36", 64), strings.Repeat("\xff", 65))
}

// sameKeys are pairs of keys that have the same block.
func sameKeys() [][2]string {
	var l [][2]string
	for _, n := range []int{0, 1, 20, 32, 62, 63} {
		for k := n + 1; k <= 64; k++ {
			l = append(l, [2]string{random(n), random(n) + strings.Repeat("\x00", k-n)})
		}
	}
	for _, n := range []int{65, 66, 100, 128, 1000} {
		sum := Sum([]byte(random(n)))
		l = append(l, [2]string{random(n), string(sum[:])}, [2]string{random(n), string(sum[:]) + strings.Repeat("\x00", 32)})
	}
	return l
}

func TestHmacExamples(t *testing.T) {
	r := strings.Repeat
	counted := make([]byte, 25)
	for i := range counted {
		counted[i] = byte(i + 1)
	}
	for _, x := range []struct{ key, message, want string }{
		{"Jefe", "what do ya want for nothing?", "5bdcc146bf60754e6a042426089575c75a003f089d2739839dec58b964ec3843"},
		{r("\x0b", 20), "Hi There", "b0344c61d8db38535ca8afceaf0bf12b881dc200c9833da726e9376c2e32cff7"},
		{r("\xaa", 20), r("\xdd", 50), "773ea91e36800e46854db8ebd09181a72959098b3ef8c122d9635514ced565fe"},
		{string(counted), r("\xcd", 50), "82558a389a443c0ea4cc819899f2083a85f0faa3e578f8077a2e3ff46729665b"},
		{r("\xaa", 131), "Test Using Larger Than Block-Size Key - Hash Key First", "60e431591ee0b67f0d8a26aacbf5b77f8e0bc6213728c5140546040f0ee37f54"},
		{r("\xaa", 131), "This is a test using a larger than block-size key and a larger than block-size data. The key needs to be hashed before being used by the HMAC algorithm.", "9b09ffa71b942fcb27635fbcd5b0e944bfdc63644f0713938a7f51535c3a35e2"},
		{"", "", "b613679a0814d9ec772f95d778c35fc5ff1697c493715653c6c712144292c5ad"},
	} {
		if h := Hmac(x.key, x.message); hex.EncodeToString(h[:]) != x.want {
			t.Errorf("P2.3: %q: %x", x.message, h)
		}
	}
}

func TestHmac(t *testing.T) {
	for i, key := range keys() {
		for _, n := range []int{0, 1, 31, 32, 33, 54, 55, 56, 63, 64, 65, 119, 120, 128, i, 500} {
			if h := Hmac(key, random(n)); !bytes.Equal(h[:], hmacOf(key, []byte(random(n)))) {
				t.Fatal("P2.3: a key and a message of so many bytes:", len(key), n)
			}
		}
	}
	for _, n := range borders() {
		if h := Hmac("key", random(n)); !bytes.Equal(h[:], hmacOf("key", []byte(random(n)))) {
			t.Fatal("P2.3: a message of", n, "bytes")
		}
	}
}

func TestMac(t *testing.T) {
	for _, key := range keys() {
		for _, parts := range [][]string{nil, {""}, {"", ""}, {"a", "b"}, {"ab"}, {random(63), random(64)}, {random(500), "", "x"}} {
			want := hmacOf(key, joined(parts...))
			if m := Mac(key, parts...); !bytes.Equal(m[:], want[:16]) {
				t.Fatalf("P2.4: a key of %d bytes, parts %.20q", len(key), parts)
			}
		}
	}
	for _, parts := range partLists() {
		want := hmacOf("key", joined(parts...))
		if m := Mac("key", parts...); !bytes.Equal(m[:], want[:16]) {
			t.Fatalf("P2.4: parts %.20q", parts)
		}
	}
}

func TestSameBlock(t *testing.T) {
	for _, x := range sameKeys() {
		a, b := x[0], x[1]
		if Hmac(a, "message") != Hmac(b, "message") || Mac(a, "x", "y") != Mac(b, "x", "y") || Expand(a, 100) != Expand(b, 100) {
			t.Error("P2.7: keys of so many bytes:", len(a), len(b))
		}
	}
	for _, n := range []int{0, 1, 63, 64} {
		long := random(n) + strings.Repeat("\x00", 65-n)
		if Hmac(random(n), "message") == Hmac(long, "message") {
			t.Error("P2.7: a key of 65 bytes has the block of its Sum:", n)
		}
	}
}

// expanded is Expand as P2.8 describes it.
func expanded(seed string, n int) string {
	var b []byte
	for i := 0; len(b) < n; i++ {
		b = append(b, hmacOf(seed, wire.Int(i))...)
	}
	return string(b[:n])
}

func TestExpand(t *testing.T) {
	for _, seed := range []string{"", "seed", "\x00", random(63), random(64), random(65), random(300)} {
		want := expanded(seed, 70000)
		for n := 1; n < 300; n++ {
			if Expand(seed, n) != want[:n] {
				t.Fatal("P2.8, P2.9: a seed, and a number, of bytes:", len(seed), n)
			}
		}
		// The number of a hash takes a second byte from 64 on.
		for _, n := range []int{2047, 2048, 2049, 2079, 2080, 2081, 4096, 65535, 65536, 65537} {
			if Expand(seed, n) != want[:n] {
				t.Fatal("P2.8, P2.9: a seed, and a number, of bytes:", len(seed), n)
			}
		}
	}
	all := expanded("seed", api.MaxExpand)
	for _, n := range []int{8192*32 + 1, api.MaxExpand - 33, api.MaxExpand - 1, api.MaxExpand} {
		if Expand("seed", n) != all[:n] {
			t.Error("P2.8, P2.9:", n)
		}
	}
}

func TestExpandInvalid(t *testing.T) {
	for _, n := range []int{0, -1, -31, -32, -api.MaxExpand, math.MinInt, math.MinInt + 1, api.MaxExpand + 1, api.MaxExpand + 32, 1 << 32, 1<<32 + 1, math.MaxInt} {
		for _, seed := range []string{"", "seed", random(100)} {
			if s := Expand(seed, n); s != "" {
				t.Error("P2.8: not from 1 to api.MaxExpand:", n, len(s))
			}
		}
	}
}

func TestBeginnings(t *testing.T) {
	long := Expand("seed", 500)
	for n := 1; n <= 500; n++ {
		short := Expand("seed", n)
		if len(short) != n || !strings.HasPrefix(long, short) {
			t.Fatal("P2.9:", n)
		}
	}
}
