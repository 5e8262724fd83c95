package code_test

import (
	"math"
	"math/rand"
	"slices"
	"testing"

	"quietus/api"
	"quietus/code"
)

func TestCheck(t *testing.T) {
	for _, x := range badCodes() {
		if e := code.Check(x.c); e != x.want {
			t.Error("P7.1: Check of", x.name, e)
		}
		if code.Pieces(x.c) != 0 || code.Size(x.c, 0) != 0 || code.Size(x.c, 7) != 0 || code.Size(x.c, api.MaxChunk) != 0 {
			t.Error("P7.1: Pieces and Size of", x.name, code.Pieces(x.c), code.Size(x.c, 7))
		}
	}
	for _, c := range []api.Code{
		{Data: 1}, {Data: 16}, {Data: 1, Globals: 4}, {Data: 1, Groups: [][]int{{0}}, Globals: 4}, {Data: 16, Groups: [][]int{}}, {Data: 16, Groups: singles(8)}, {Data: 16, Groups: singles(4), Globals: 4}, {Data: 10, Groups: singles(10), Globals: 4}, {Data: 12, Groups: singles(12)}, {Data: 4, Groups: [][]int{{3}, {0, 2}, {1}}}, regular(16, 1, 4), example(),
	} {
		if e := code.Check(c); e != api.OK {
			t.Error("P7.1: Check of", c, e)
		}
		if n := code.Pieces(c); n != c.Data+len(c.Groups)+c.Globals {
			t.Error("P7.1: Pieces of", c, n)
		}
	}
}

// wild is a code whose parts are often out of their bounds.
func wild(r *rand.Rand) api.Code {
	c := anyCode(r, api.MaxData)
	switch r.Intn(12) {
	case 0:
		c.Data = r.Intn(24) - 4
	case 1:
		c.Globals = r.Intn(10) - 3
	case 2:
		c.Groups = append(c.Groups, nil)
	case 3:
		c.Groups = append(c.Groups, []int{r.Intn(api.MaxData + 2)})
	case 4:
		c.Groups = slices.Insert(c.Groups, r.Intn(len(c.Groups)+1), []int{r.Intn(20) - 2, r.Intn(20) - 2}[:r.Intn(3)])
	case 5:
		c.Data -= r.Intn(3)
	}
	if r.Intn(4) == 0 && len(c.Groups) > 0 {
		g := r.Intn(len(c.Groups))
		c.Groups[g] = slices.Clone(c.Groups[g])
		if n := len(c.Groups[g]); n > 0 {
			c.Groups[g][r.Intn(n)] = r.Intn(19) - 2
		}
	}
	return c
}

func TestCheckOfManyCodes(t *testing.T) {
	r := rand.New(rand.NewSource(1))
	seen := map[api.Errno]int{}
	for range 100000 {
		c := wild(r)
		want := wantCheck(c)
		seen[want]++
		if e := code.Check(c); e != want {
			t.Fatal("P7.1: Check of", c, e, "and not", want)
		}
		if n := code.Pieces(c); n != wantPieces(c) {
			t.Fatal("P7.1: Pieces of", c, n)
		}
		if n := r.Intn(api.MaxChunk+200) - 100; code.Size(c, n) != wantSize(c, n) {
			t.Fatal("P7.1: Size of", c, n, code.Size(c, n))
		}
	}
	for _, e := range []api.Errno{api.OK, api.ErrRange, api.ErrLimit, api.ErrNone, api.ErrArg} {
		if seen[e] < 100 {
			t.Error("too few cases:", e, seen[e])
		}
	}
}

func TestSize(t *testing.T) {
	for data := 1; data <= api.MaxData; data++ {
		c := regular(data, min(data, 3), 2)
		for n := range api.MaxChunk + 1 {
			size := code.Size(c, n)
			if size*data < n || (size-1)*data >= n && size > 0 {
				t.Fatal("P7.1: Size of", data, "data pieces,", n, "bytes:", size)
			}
		}
		for _, n := range []int{-1, api.MaxChunk + 1, math.MinInt, math.MaxInt, -data} {
			if size := code.Size(c, n); size != 0 {
				t.Error("P7.1: Size of", data, "data pieces,", n, "bytes:", size)
			}
		}
	}
	if code.Size(example(), 7) != 2 || code.Size(api.Code{Data: 1}, api.MaxChunk) != api.MaxChunk {
		t.Error("P7.1: Size of 7 bytes, of a chunk in one piece", code.Size(example(), 7), code.Size(api.Code{Data: 1}, api.MaxChunk))
	}
}

func TestRows(t *testing.T) {
	rows, e := code.Rows(example())
	want := [][]uint8{{1, 0, 0, 0}, {0, 1, 0, 0}, {0, 0, 1, 0}, {0, 0, 0, 1}, {1, 1, 0, 0}, {0, 0, 1, 1}, {1, 2, 4, 8}}
	if !slices.EqualFunc(rows, want, slices.Equal[[]uint8]) || e != api.OK {
		t.Error("P7.2: Rows of C", rows, e)
	}
	rows, e = code.Rows(api.Code{Data: 3, Groups: [][]int{{1}}, Globals: 4})
	want = [][]uint8{{1, 0, 0}, {0, 1, 0}, {0, 0, 1}, {0, 1, 0}, {1, 2, 4}, {1, 4, 16}, {1, 8, 64}, {1, 16, 29}}
	if !slices.EqualFunc(rows, want, slices.Equal[[]uint8]) || e != api.OK {
		t.Error("P7.2: Rows of 3 data pieces and 4 global parities", rows, e)
	}
	for _, x := range badCodes() {
		if rows, e := code.Rows(x.c); len(rows) > 0 || e != x.want {
			t.Error("P7.2: Rows of", x.name, rows, e)
		}
	}
	r := rand.New(rand.NewSource(2))
	for k := range 3000 {
		c := anyCode(r, api.MaxData)
		if k == 0 {
			c = regular(16, 4, 4)
		}
		if rows, e := code.Rows(c); !slices.EqualFunc(rows, wantRows(c), slices.Equal[[]uint8]) || e != api.OK {
			t.Fatal("P7.2: Rows of", c, rows, e)
		}
	}
}

func TestEncode(t *testing.T) {
	pieces, e := code.Encode(example(), "\x01\x02\x03\x04\x05\x06\x07")
	want := []string{"\x01\x02", "\x03\x04", "\x05\x06", "\x07\x00", "\x02\x06", "\x02\x06", "\x2b\x12"}
	if !slices.Equal(pieces, want) || e != api.OK {
		t.Errorf("P7.3: Encode of the bytes 1 to 7 with C: %q %d", pieces, e)
	}
	if pieces, e := code.Encode(example(), ""); !slices.Equal(pieces, make([]string, 7)) || e != api.OK {
		t.Errorf("P7.3: Encode of no byte: %q %d", pieces, e)
	}
	if pieces, e := code.Encode(api.Code{Data: 16, Globals: 1}, "a"); !slices.Equal(pieces, append([]string{"a"}, append(slices.Repeat([]string{"\x00"}, 15), "a")...)) || e != api.OK {
		t.Errorf("P7.3: Encode of a byte in 16 pieces: %q %d", pieces, e)
	}
	for _, x := range badCodes() {
		for _, n := range []int{0, 5, api.MaxChunk + 1} {
			if pieces, e := code.Encode(x.c, string(make([]byte, n))); len(pieces) > 0 || e != x.want {
				t.Error("P7.3: Encode with", x.name, pieces, e)
			}
		}
	}
	for _, n := range []int{api.MaxChunk + 1, api.MaxChunk + 15, 1 << 20} {
		if pieces, e := code.Encode(example(), string(make([]byte, n))); len(pieces) > 0 || e != api.ErrLimit {
			t.Error("P7.3: Encode of", n, "bytes", len(pieces), e)
		}
	}
}

func TestEncodeOfManyChunks(t *testing.T) {
	r := rand.New(rand.NewSource(3))
	for k := range 3000 {
		c, n := anyCode(r, api.MaxData), r.Intn(60)
		switch k {
		case 0, 1, 2:
			c, n = []api.Code{regular(16, 4, 4), {Data: 1, Globals: 4}, regular(13, 3, 4)}[k], api.MaxChunk
		case 3:
			n = api.MaxChunk - 1
		}
		data := noise(r, n)
		if pieces, e := code.Encode(c, data); !slices.Equal(pieces, wantEncode(c, data)) || e != api.OK {
			t.Fatalf("P7.3: Encode of %q with %v: %q %d", data, c, pieces, e)
		}
	}
}
