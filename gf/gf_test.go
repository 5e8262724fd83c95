package gf

import (
	"testing"

	"quietus/api"
)

func TestMulExamples(t *testing.T) {
	for _, x := range []struct{ a, b, want uint8 }{
		{2, 128, 29}, {3, 7, 9}, {2, 2, 4}, {3, 3, 5}, {128, 2, 29}, {2, 4, 8}, {128, 128, 19}, {255, 255, 226}, {0, 0, 0}, {0, 255, 0}, {1, 255, 255},
	} {
		if p := Mul(x.a, x.b); p != x.want {
			t.Errorf("P4.1: Mul of %d and %d: %d, not %d", x.a, x.b, p, x.want)
		}
	}
}

func TestMul(t *testing.T) {
	for a, row := range products() {
		for b, want := range row {
			if p := Mul(uint8(a), uint8(b)); p != want {
				t.Fatalf("P4.1: Mul of %d and %d: %d, not %d", a, b, p, want)
			}
		}
	}
}

func TestInv(t *testing.T) {
	for _, x := range [][2]uint8{{2, 142}, {1, 1}, {142, 2}} {
		if b, e := Inv(x[0]); b != x[1] || e != api.OK {
			t.Error("P4.1: Inv of", x[0], b, e)
		}
	}
	for a, row := range products() {
		b, e := Inv(uint8(a))
		if a == 0 {
			if b != 0 || e != api.ErrArg {
				t.Error("P4.1: Inv of 0:", b, e)
			}
			continue
		}
		if e != api.OK || row[b] != 1 {
			t.Fatal("P4.1: Inv of", a, b, e)
		}
	}
}

func TestExpExamples(t *testing.T) {
	for n, want := range map[int]uint8{0: 1, 1: 2, 7: 128, 8: 29, -1: 142, 255: 1, -255: 1, 254: 142, 256: 2, -247: 29, 263: 29} {
		if p := Exp(n); p != want {
			t.Errorf("P4.2: Exp of %d: %d, not %d", n, p, want)
		}
	}
}

func TestExp(t *testing.T) {
	want := wantPowers(2)
	for _, n := range exponents() {
		if p, w := Exp(n), want[modulo(n)]; p != w {
			t.Fatalf("P4.2: Exp of %d: %d, not %d", n, p, w)
		}
	}
}

func TestLog(t *testing.T) {
	for _, x := range []struct {
		a    uint8
		want int
	}{{29, 8}, {3, 25}, {1, 0}, {2, 1}, {128, 7}, {142, 254}} {
		if n, e := Log(x.a); n != x.want || e != api.OK {
			t.Error("P4.2: Log of", x.a, n, e)
		}
	}
	if n, e := Log(0); n != 0 || e != api.ErrArg {
		t.Error("P4.2: Log of 0:", n, e)
	}
	for want, p := range wantPowers(2) {
		if n, e := Log(p); n != want || e != api.OK {
			t.Fatal("P4.2: Log of", p, n, e)
		}
	}
}

func TestPowExamples(t *testing.T) {
	for _, x := range []struct {
		a    uint8
		n    int
		want uint8
	}{
		{3, 2, 5}, {0, 0, 1}, {0, -5, 0}, {0, 5, 0}, {0, 255, 0}, {0, -255, 0}, {0, 510, 0}, {1, -7, 1}, {2, 8, 29}, {2, -1, 142}, {255, 2, 226}, {9, 0, 1}, {9, 255, 1}, {9, 256, 9}, {9, -254, 9},
	} {
		if p := Pow(x.a, x.n); p != x.want {
			t.Errorf("P4.2: Pow of %d and %d: %d, not %d", x.a, x.n, p, x.want)
		}
	}
}

func TestPow(t *testing.T) {
	all := exponents()
	for a := range 256 {
		want := wantPowers(uint8(a))
		for _, n := range all {
			w := want[modulo(n)]
			if a == 0 && n != 0 {
				w = 0
			}
			if p := Pow(uint8(a), n); p != w {
				t.Fatalf("P4.2: Pow of %d and %d: %d, not %d", a, n, p, w)
			}
		}
	}
}

// TestPowCounts multiplies as often as the exponent says, without counting modulo 255; by the inverse, if it is negative.
func TestPowCounts(t *testing.T) {
	all := products()
	for a := 1; a < 256; a++ {
		inverse := 0
		for all[a][inverse] != 1 {
			inverse++
		}
		up, down := uint8(1), uint8(1)
		for n := range 600 {
			if Pow(uint8(a), n) != up || Pow(uint8(a), -n) != down {
				t.Fatal("P4.2: Pow of", a, n, -n)
			}
			if a == 2 && (Exp(n) != up || Exp(-n) != down) {
				t.Fatal("P4.2: Exp of", n, -n)
			}
			up, down = all[a][up], all[inverse][down]
		}
	}
}
