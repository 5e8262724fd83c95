package gf

import (
	"math/rand"
	"slices"
	"strings"
	"testing"
	"unsafe"

	"quietus/api"
)

// allBytes is a string of all bytes.
func allBytes() string {
	var b []byte
	for x := range 256 {
		b = append(b, byte(x))
	}
	return string(b)
}

func TestSum(t *testing.T) {
	for _, x := range [][3]string{
		{"ab", "a", "\x00b"}, {"a", "ab", "\x00b"}, {"", "", ""}, {"", "xyz", "xyz"}, {"xyz", "", "xyz"}, {"\xff\x0f", "\xf0\xff", "\x0f\xf0"}, {"abc", "abc", "\x00\x00\x00"}, {"a", "\x00\x00\x00", "a\x00\x00"}, {"\x80\xff", "\x80", "\x00\xff"},
	} {
		if s := Sum(x[0], x[1]); s != x[2] {
			t.Errorf("P4.3: Sum of %q and %q: %q, not %q", x[0], x[1], s, x[2])
		}
	}
	r := rand.New(rand.NewSource(1))
	for n := range 70 {
		for m := range 70 {
			a, b := noise(r, n), noise(r, m)
			if Sum(a, b) != wantSum(a, b) {
				t.Fatal("P4.3: Sum of strings of so many bytes:", n, m)
			}
		}
	}
	for x := range 256 {
		all, same := allBytes(), strings.Repeat(string([]byte{byte(x)}), 256)
		if Sum(all, same) != wantSum(all, same) {
			t.Fatal("P4.3: Sum of all bytes and", x)
		}
	}
	long, longer := noise(r, 1<<18), noise(r, 1<<20)
	if Sum(long, longer) != wantSum(long, longer) || Sum(longer, long) != wantSum(longer, long) {
		t.Error("P4.3: Sum of long strings")
	}
}

func TestScale(t *testing.T) {
	for _, c := range []uint8{0, 1, 2, 255} {
		if s := Scale(c, ""); s != "" {
			t.Errorf("P4.3: Scale of %d and no bytes: %q", c, s)
		}
	}
	if s := Scale(2, "\x80\x01\x00"); s != "\x1d\x02\x00" {
		t.Errorf("P4.3: Scale of 2 and 128 1 0: %q", s)
	}
	all := allBytes()
	for c := range 256 {
		if s, want := Scale(uint8(c), all), wantScale(uint8(c), all); s != want {
			t.Fatalf("P4.3: Scale of %d and all bytes: %q, not %q", c, s, want)
		}
	}
	r := rand.New(rand.NewSource(2))
	for n := range 300 {
		s, c := noise(r, n), uint8(r.Intn(256))
		if Scale(c, s) != wantScale(c, s) || Scale(0, s) != string(make([]byte, n)) || Scale(1, s) != s {
			t.Fatal("P4.3: Scale of", c, "and bytes, so many:", n)
		}
	}
}

func TestCombineExamples(t *testing.T) {
	for _, x := range []struct {
		coef  []uint8
		parts []string
		want  string
	}{
		{[]uint8{1, 2}, []string{"\x05\x06", "\x80\x01"}, "\x18\x04"},
		{nil, nil, ""},
		{[]uint8{}, []string{}, ""},
		{nil, []string{}, ""},
		{[]uint8{7}, []string{""}, ""},
		{[]uint8{7, 0, 9}, []string{"", "", ""}, ""},
		{[]uint8{0}, []string{"abc"}, "\x00\x00\x00"},
		{[]uint8{1}, []string{"abc"}, "abc"},
		{[]uint8{1, 1}, []string{"abc", "abc"}, "\x00\x00\x00"},
		{[]uint8{3, 0}, []string{"\x07", "\xff"}, "\x09"},
	} {
		if s, e := Combine(x.coef, x.parts); s != x.want || e != api.OK {
			t.Errorf("P4.4: Combine of %d and %q: %q %d", x.coef, x.parts, s, e)
		}
	}
}

func TestCombineInvalid(t *testing.T) {
	for _, x := range []struct {
		coef  []uint8
		parts []string
	}{
		{[]uint8{1}, nil},
		{nil, []string{""}},
		{nil, []string{"a"}},
		{[]uint8{0}, []string{}},
		{[]uint8{1}, []string{"a", "b"}},
		{[]uint8{1, 2}, []string{"a"}},
		{[]uint8{1, 2, 3}, []string{"a", "b"}},
		{[]uint8{1, 2}, []string{"a", ""}},
		{[]uint8{1, 2}, []string{"", "a"}},
		{[]uint8{1, 2}, []string{"a", "ab"}},
		{[]uint8{1, 2}, []string{"ab", "a"}},
		{[]uint8{0, 0}, []string{"ab", "a"}},
		{[]uint8{1, 2, 3}, []string{"ab", "cd", "e"}},
		{[]uint8{1, 2, 3}, []string{"ab", "c", "de"}},
		{[]uint8{1, 2, 3}, []string{"a", "cd", "ef"}},
		{[]uint8{1, 2, 3}, []string{"a", "b", "cd"}},
		{[]uint8{1}, []string{"a", "bc"}},
	} {
		if s, e := Combine(x.coef, x.parts); s != "" || e != api.ErrArg {
			t.Errorf("P4.4: Combine of %d and %q: %q %d", x.coef, x.parts, s, e)
		}
	}
}

func TestCombine(t *testing.T) {
	r := rand.New(rand.NewSource(3))
	for many := range 30 {
		for _, n := range []int{0, 1, 2, 3, 15, 16, 17, 33, 100} {
			coef, parts := []uint8(noise(r, many)), noises(r, many, n)
			if many > 2 {
				coef[r.Intn(many)] = 0
			}
			want := wantCombine(n, coef, parts)
			if many == 0 {
				want = ""
			}
			if s, e := Combine(coef, parts); s != want || e != api.OK {
				t.Fatal("P4.4: so many parts and bytes:", many, n, e)
			}
		}
	}
	for c := range 256 {
		coef, parts := []uint8{1, uint8(c)}, []string{noise(r, 256), allBytes()}
		if s, e := Combine(coef, parts); s != wantCombine(256, coef, parts) || e != api.OK {
			t.Fatal("P4.4: all bytes, times", c, e)
		}
	}
	coef, parts := []uint8(noise(r, 3000)), noises(r, 3000, 2)
	if s, e := Combine(coef, parts); s != wantCombine(2, coef, parts) || e != api.OK {
		t.Error("P4.4: many parts:", e)
	}
	coef, parts = []uint8(noise(r, 3)), noises(r, 3, 1<<17)
	if s, e := Combine(coef, parts); s != wantCombine(1<<17, coef, parts) || e != api.OK {
		t.Error("P4.4: long parts:", e)
	}
}

// TestArguments checks that arguments are not modified, and that results share no memory with them.
func TestArguments(t *testing.T) {
	r := rand.New(rand.NewSource(4))
	coef, parts := []uint8{1, 0, 77}, noises(r, 3, 20)
	oldCoef, oldParts := slices.Clone(coef), slices.Clone(parts)
	s, _ := Combine(coef, parts)
	if !slices.Equal(coef, oldCoef) || !slices.Equal(parts, oldParts) {
		t.Error("DOC.md, Memory: an argument was modified")
	}
	before := strings.Clone(s)
	clear(coef)
	clear(parts)
	if s != before {
		t.Error("chapter 4: results are new memory: Combine")
	}
	x := noise(r, 20)
	one, _ := Combine([]uint8{1}, []string{x})
	for i, y := range []string{Sum(x, ""), Sum("", x), Sum(x, string(make([]byte, 20))), Scale(1, x), one} {
		if y != x || unsafe.StringData(y) == unsafe.StringData(x) {
			t.Error("chapter 4: results are new memory:", i)
		}
	}
}
