package risk_test

import (
	"math"
	"math/big"
	"math/rand"
	"slices"
	"testing"

	"quietus/api"
	"quietus/risk"
)

// TestExamples checks the examples of the chapter.
func TestExamples(t *testing.T) {
	p := example()
	if n, e := risk.Total(p); n != 4096 || e != api.OK {
		t.Error("P12.3: Total", n, e)
	}
	for failed, want := range []bool{false, false, false, true, false, true, true, true} {
		if lost, e := risk.Lost(p, failed); lost != want || e != api.OK {
			t.Error("P12.2: Lost of", failed, lost, e)
		}
	}
	if n, e := risk.Loss(p); n != 208 || e != api.OK {
		t.Error("P12.3: Loss", n, e)
	}
	if set, e := risk.Least(p); set != 3 || e != api.OK {
		t.Error("P12.4: Least", set, e)
	}
	for fails, want := range map[bool]int{true: 1408, false: 128} {
		q, e := risk.Given(p, 0, fails)
		if n, f := risk.Loss(q); n != want || e != api.OK || f != api.OK {
			t.Error("P12.5: Loss given", fails, q, n, e, f)
		}
	}
	if n, e := risk.Millionths(p); n != 50782 || e != api.OK {
		t.Error("P12.7: Millionths", n, e)
	}
	p.At[2] = -1
	if n, e := risk.Loss(p); n != 736 || e != api.OK {
		t.Error("P12.3: Loss with the piece 2 nowhere", n, e)
	}
}

// checkError calls all functions with a peril, and checks that each returns an error, and nothing else but it; api.OK stands for none.
func checkError(t *testing.T, name string, p api.Peril, want api.Errno) {
	t.Helper()
	if e := risk.Check(p); e != want {
		t.Error("P12.1: Check of", name, e, "and not", want)
	}
	total, e0 := risk.Total(p)
	lost, e1 := risk.Lost(p, 0)
	loss, e2 := risk.Loss(p)
	least, e3 := risk.Least(p)
	m, e4 := risk.Millionths(p)
	by, e5 := risk.Compare(p, example())
	yb, e6 := risk.Compare(example(), p)
	for k, e := range []api.Errno{e0, e1, e2, e3, e4, e5, e6} {
		if e != want {
			t.Error("P12.1: function", k, "with", name, e, "and not", want)
		}
	}
	given, e7 := risk.Given(p, 0, true)
	if want == api.OK {
		if total < 1 || by != -yb {
			t.Error("P12.3, P12.6: with", name, total, by, yb)
		}
		return
	}
	if e7 != want || total != 0 || lost || loss != 0 || least != 0 || m != 0 || by != 0 || yb != 0 || !equal(given, api.Peril{}) {
		t.Error("P12.1: results with", name, total, lost, loss, least, m, by, yb, given, e7)
	}
}

// TestCheck checks each error, alone and together with later ones, and perils that are just right.
func TestCheck(t *testing.T) {
	for _, x := range []struct {
		name   string
		change func(p *api.Peril)
		want   api.Errno
	}{
		{"the example", func(p *api.Peril) {}, api.OK},
		{"the zero value", func(p *api.Peril) { *p = api.Peril{} }, api.ErrRange},
		{"no data", func(p *api.Peril) { p.Code.Data, p.At, p.Chance = 0, nil, []int{17} }, api.ErrRange},
		{"too many data pieces", func(p *api.Peril) { p.Code.Data = 17 }, api.ErrRange},
		{"too many globals, and too many domains", func(p *api.Peril) { p.Code.Globals, p.Chance = 5, make([]int, 13) }, api.ErrRange},
		{"too many pieces", func(p *api.Peril) { p.Code.Groups, p.Chance = make([][]int, 22), []int{17} }, api.ErrLimit},
		{"an empty group", func(p *api.Peril) { p.Code.Groups, p.Chance = [][]int{{}}, make([]int, 13) }, api.ErrNone},
		{"a wrong group", func(p *api.Peril) { p.Code.Groups, p.Chance = [][]int{{1, 0}}, make([]int, 13) }, api.ErrArg},
		{"12 domains", func(p *api.Peril) { p.Chance = make([]int, 12) }, api.OK},
		{"13 domains", func(p *api.Peril) { p.Chance = make([]int, 13) }, api.ErrLimit},
		{"13 domains, of which one is used", func(p *api.Peril) { p.At, p.Chance = []int{12, 12, 12}, make([]int, 13) }, api.ErrLimit},
		{"13 domains, and a place too few", func(p *api.Peril) { p.At, p.Chance = p.At[:2], make([]int, 13) }, api.ErrLimit},
		{"13 domains, and no such domain", func(p *api.Peril) { p.At[0], p.Chance = 13, make([]int, 13) }, api.ErrLimit},
		{"13 domains, and wrong chances", func(p *api.Peril) { p.Chance = slices.Repeat([]int{17}, 13) }, api.ErrLimit},
		{"very many domains", func(p *api.Peril) { p.Chance = make([]int, 1<<20) }, api.ErrLimit},
		{"no places", func(p *api.Peril) { p.At = nil }, api.ErrArg},
		{"a place too few", func(p *api.Peril) { p.At = p.At[:2] }, api.ErrArg},
		{"a place too many", func(p *api.Peril) { p.At = append(p.At, 0) }, api.ErrArg},
		{"a place for each data piece and each domain", func(p *api.Peril) { p.Chance, p.At = p.Chance[:2], p.At[:2] }, api.ErrArg},
		{"a place less than -1", func(p *api.Peril) { p.At[2] = -2 }, api.ErrArg},
		{"the least number as a place", func(p *api.Peril) { p.At[0] = math.MinInt }, api.ErrArg},
		{"no such domain", func(p *api.Peril) { p.At[1] = 3 }, api.ErrArg},
		{"the greatest number as a place", func(p *api.Peril) { p.At[1] = math.MaxInt }, api.ErrArg},
		{"the last of 12 domains", func(p *api.Peril) { p.At[1], p.Chance = 11, make([]int, 12) }, api.OK},
		{"no such domain of 12", func(p *api.Peril) { p.At[1], p.Chance = 12, make([]int, 12) }, api.ErrArg},
		{"a place in none of no domains", func(p *api.Peril) { p.At, p.Chance = []int{-1, 0, -1}, nil }, api.ErrArg},
		{"a wrong place, and a wrong chance", func(p *api.Peril) { p.At[2], p.Chance[0] = 3, 17 }, api.ErrArg},
		{"a place too few, and a wrong chance", func(p *api.Peril) { p.At, p.Chance[0] = p.At[:2], -1 }, api.ErrArg},
		{"a negative chance", func(p *api.Peril) { p.Chance[2] = -1 }, api.ErrRange},
		{"the least number as a chance", func(p *api.Peril) { p.Chance[0] = math.MinInt }, api.ErrRange},
		{"a chance of 17", func(p *api.Peril) { p.Chance[1] = 17 }, api.ErrRange},
		{"the greatest number as a chance", func(p *api.Peril) { p.Chance[0] = math.MaxInt }, api.ErrRange},
		{"a wrong chance of a domain without a piece", func(p *api.Peril) { p.Chance = append(p.Chance, 17) }, api.ErrRange},
		{"chances of 0 and 16", func(p *api.Peril) { p.Chance = []int{0, 16, 0} }, api.OK},
		{"all pieces nowhere", func(p *api.Peril) { p.At = []int{-1, -1, -1} }, api.OK},
		{"no domains", func(p *api.Peril) { p.At, p.Chance = []int{-1, -1, -1}, nil }, api.OK},
		{"all pieces in one domain", func(p *api.Peril) { p.At = []int{1, 1, 1} }, api.OK},
		{"more domains than pieces", func(p *api.Peril) { p.Chance = slices.Repeat([]int{16}, 7) }, api.OK},
		{"as many pieces as there may be", func(p *api.Peril) {
			p.Code = api.Code{Data: 16, Groups: [][]int{{0}, {1}, {2}, {3}}, Globals: 4}
			p.At = make([]int, 24)
		}, api.OK},
	} {
		p := example()
		x.change(&p)
		checkError(t, x.name, p, x.want)
	}
}

// TestCompareErrors checks that the error of the first peril comes first.
func TestCompareErrors(t *testing.T) {
	limit, arg, wrong := example(), example(), example()
	limit.Chance, arg.At, wrong.Chance = make([]int, 13), nil, []int{1, 2, -4}
	for _, x := range []struct {
		a, b api.Peril
		want api.Errno
	}{
		{limit, arg, api.ErrLimit}, {arg, limit, api.ErrArg}, {wrong, arg, api.ErrRange}, {arg, wrong, api.ErrArg}, {wrong, example(), api.ErrRange}, {example(), wrong, api.ErrRange}, {example(), example(), api.OK},
	} {
		if by, e := risk.Compare(x.a, x.b); by != 0 || e != x.want {
			t.Error("P12.1: Compare of", x.a, x.b, by, e)
		}
	}
}

// TestLost looks at all sets of domains, and at numbers that are none.
func TestLost(t *testing.T) {
	seen := map[bool]int{}
	try := func(r *rand.Rand, p api.Peril) {
		n := len(p.Chance)
		for set := range 1 << n {
			if n > 6 && r.Intn(1<<n) > 50 {
				continue
			}
			want := wantLost(p, listOf(set))
			seen[want]++
			if lost, e := risk.Lost(p, set); lost != want || e != api.OK {
				t.Fatal("P12.2: Lost of", p, set, lost, e)
			}
		}
		for _, set := range append(slices.Clone(someNumbers), 1<<n, 1<<n+1, 1<<(n+1)-1, 2<<n, -1<<n, -1-1<<n) {
			if set < 0 || set >= 1<<n {
				if lost, e := risk.Lost(p, set); lost || e != api.ErrArg {
					t.Fatal("P12.2: Lost of", p, set, lost, e)
				}
			}
		}
	}
	each(t, 1, 1500, small, try)
	each(t, 2, 200, great, try)
	enough(t, seen, 1000, true, false)
}

// TestLossAndTotal compares chances with a reference.
func TestLossAndTotal(t *testing.T) {
	seen := map[string]int{}
	try := func(_ *rand.Rand, p api.Peril) {
		total, e := risk.Total(p)
		want := wantTotal(p)
		if big.NewInt(int64(total)).Cmp(want) != 0 || e != api.OK {
			t.Fatal("P12.3: Total of", p, total, e)
		}
		loss, e := risk.Loss(p)
		if want := wantLoss(p, 0, nil); big.NewInt(int64(loss)).Cmp(want) != 0 || e != api.OK {
			t.Fatal("P12.3: Loss of", p, loss, e, "and not", want)
		}
		switch loss {
		case 0:
			seen["never"]++
		case total:
			seen["always"]++
		default:
			seen["else"]++
		}
	}
	each(t, 3, 3000, small, try)
	each(t, 4, 150, great, try)
	enough(t, seen, 100, "never", "always", "else")
}

// TestFewAndManyDomains checks chances without any domain, and with as many as there may be.
func TestFewAndManyDomains(t *testing.T) {
	twelve := api.Peril{Code: api.Code{Data: 12}, At: []int{0, 1, 2, 3, 4, 5, 6, 7, 8, 9, 10, 11}, Chance: slices.Repeat([]int{15}, 12)}
	five := api.Peril{Code: api.Code{Data: 1, Globals: 4}, At: []int{11, 9, 7, 5, 3}, Chance: slices.Repeat([]int{1}, 12)}
	surely := api.Peril{Code: api.Code{Data: 2}, At: []int{-1, 0}, Chance: slices.Repeat([]int{16}, 12)}
	never := api.Peril{Code: api.Code{Data: 2}, At: []int{10, 11}, Chance: append(slices.Repeat([]int{7}, 10), 0, 0)}
	none := api.Peril{Code: api.Code{Data: 2, Globals: 1}, At: []int{-1, -1, -1}}
	for _, x := range []struct {
		name                  string
		p                     api.Peril
		total, loss, m, least int
	}{
		{"12 pieces that are all needed", twelve, 1 << 48, 1<<48 - 1, 1000000, 1},
		{"5 copies", five, 1 << 48, 1 << 28, 1, 1<<11 | 1<<9 | 1<<7 | 1<<5 | 1<<3},
		{"a piece that is nowhere", surely, 1 << 48, 1 << 48, 1000000, 0},
		{"domains that never fail", never, 1 << 48, 0, 0, 1 << 10},
		{"no domains", none, 1, 1, 1000000, 0},
	} {
		total, e := risk.Total(x.p)
		loss, f := risk.Loss(x.p)
		m, g := risk.Millionths(x.p)
		least, h := risk.Least(x.p)
		if total != x.total || loss != x.loss || m != x.m || least != x.least || e != api.OK || f != api.OK || g != api.OK || h != api.OK {
			t.Error("P12.3, P12.4, P12.7:", x.name, total, loss, m, least, e, f, g, h)
		}
	}
	for _, set := range []int{-1, 1, 2} {
		if lost, e := risk.Lost(none, set); lost || e != api.ErrArg {
			t.Error("P12.2: Lost of", set, "without domains", lost, e)
		}
	}
	if lost, e := risk.Lost(none, 0); !lost || e != api.OK {
		t.Error("P12.2: Lost of 0 without domains", lost, e)
	}
}

// TestLeast compares the least sets with a reference.
func TestLeast(t *testing.T) {
	seen := map[int]int{}
	try := func(_ *rand.Rand, p api.Peril) {
		least, e := risk.Least(p)
		if want := wantLeast(p); least != want || e != api.OK {
			t.Fatal("P12.4: Least of", p, least, e, "and not", want)
		}
		seen[len(listOf(least))]++
	}
	each(t, 5, 3000, small, try)
	each(t, 6, 150, great, try)
	each(t, 7, 300, copies, try)
	enough(t, seen, 50, 0, 1, 2, 3, 4)
}

// TestLeastOfSeveral has sets of one size, of which the least number is not the least set: 1 and 2 (6), or 0 and 3 (9).
func TestLeastOfSeveral(t *testing.T) {
	// The pieces 0 and 1 are copies of each other in the domains 0 and 3, the pieces 2 and 3 in the domains 1 and 2.
	p := api.Peril{Code: api.Code{Data: 2, Groups: [][]int{{0}, {1}}}, At: []int{0, 1, 3, 2}, Chance: []int{0, 16, 16, 0}}
	if set, e := risk.Least(p); set != 9 || e != api.OK {
		t.Error("P12.4: Least of 9 and 6", set, e)
	}
	p.At = []int{0, 1, 2, 3}
	if set, e := risk.Least(p); set != 5 || e != api.OK {
		t.Error("P12.4: Least of 5 and 10", set, e)
	}
	// The least set of all has the greatest number, for three domains; a set with fewer domains is less in any case.
	q := api.Peril{Code: api.Code{Data: 2, Groups: [][]int{{0}, {1}}, Globals: 1}, At: []int{0, 1, 5, 4, 3}, Chance: make([]int, 6)}
	if set, e := risk.Least(q); set != 1<<0|1<<3|1<<5 || e != api.OK {
		t.Error("P12.4: Least of two sets of three", set, e)
	}
	q.At = []int{0, 4, 5, 4, 3}
	if set, e := risk.Least(q); set != 1<<3|1<<4 || e != api.OK {
		t.Error("P12.4: Least with a set of two", set, e)
	}
}

// TestGiven checks what is given, and what stays.
func TestGiven(t *testing.T) {
	try := func(r *rand.Rand, p api.Peril) {
		for d := range p.Chance {
			for fails, chance := range map[bool]int{true: 16, false: 0} {
				want := copied(p)
				want.Chance[d] = chance
				if q, e := risk.Given(p, d, fails); !equal(q, want) || e != api.OK {
					t.Fatal("P12.5: Given of", p, d, fails, q, e)
				}
			}
		}
		for _, d := range append(slices.Clone(someNumbers), len(p.Chance)) {
			if d < 0 || d >= len(p.Chance) {
				if q, e := risk.Given(p, d, r.Intn(2) == 0); !equal(q, api.Peril{}) || e != api.ErrArg {
					t.Fatal("P12.5: Given of", p, d, q, e)
				}
			}
		}
	}
	each(t, 8, 500, small, try)
	each(t, 9, 100, great, try)
}

// TestCompare compares chances with exact fractions, of perils with equally and with differently many domains.
func TestCompare(t *testing.T) {
	seen := map[int]int{}
	try := func(r *rand.Rand, a api.Peril) {
		b := small(r)
		switch r.Intn(4) {
		case 0: // another domain changes nothing
			b = copied(a)
			if len(b.Chance) < 12 {
				b.Chance = append(b.Chance, r.Intn(17))
			}
		case 1:
			b = copied(a)
			for k := range b.Chance {
				b.Chance[k] = min(16, max(0, b.Chance[k]+r.Intn(3)-1))
			}
		}
		want := wantChance(a).Cmp(wantChance(b))
		seen[want]++
		by, e := risk.Compare(a, b)
		yb, f := risk.Compare(b, a)
		if by != want || yb != -want || e != api.OK || f != api.OK {
			t.Fatal("P12.6: Compare of", a, b, by, yb, e, f)
		}
	}
	each(t, 10, 3000, small, try)
	each(t, 11, 60, great, try)
	enough(t, seen, 500, -1, 0, 1)
}

// TestCompareClose compares chances that differ as little as they can.
func TestCompareClose(t *testing.T) {
	// One data piece in several copies, with a chance of a sixteenth each: 1 of 16^k.
	power := func(k, domains int) api.Peril {
		p := api.Peril{Code: api.Code{Data: 1, Globals: 4}, At: []int{0, 0, 0, 0, 0}, Chance: slices.Repeat([]int{1}, domains)}
		for i := range p.At {
			p.At[i] = i % k
		}
		return p
	}
	// As many data pieces as domains, all with the chance 15: all but 1 of 16^k; with one that surely does not fail, less.
	all := func(k int) api.Peril {
		p := api.Peril{Code: api.Code{Data: k}, Chance: slices.Repeat([]int{15}, k)}
		for i := range k {
			p.At = append(p.At, i)
		}
		return p
	}
	sure := api.Peril{Code: api.Code{Data: 1}, At: []int{-1}}
	for _, x := range []struct {
		a, b api.Peril
		want int
	}{
		{power(5, 12), power(5, 5), 0}, {power(5, 12), power(4, 4), -1}, {power(1, 1), power(1, 12), 0}, {power(2, 12), power(1, 1), -1},
		{all(12), all(11), 1}, {all(12), all(12), 0}, {all(11), all(12), -1}, {all(12), sure, -1}, {sure, all(1), 1}, {sure, sure, 0},
	} {
		if by, e := risk.Compare(x.a, x.b); by != x.want || e != api.OK {
			t.Error("P12.6: Compare of", x.a, x.b, by, e)
		}
	}
	one, other := power(5, 12), power(5, 12)
	other.Chance[11] = 9 // of a domain without a piece
	if by, e := risk.Compare(one, other); by != 0 || e != api.OK {
		t.Error("P12.6: Compare of", one, other, by, e)
	}
}

// TestMillionths compares millionths with exact fractions.
func TestMillionths(t *testing.T) {
	whole := 0
	try := func(_ *rand.Rand, p api.Peril) {
		chance := wantChance(p)
		m, e := risk.Millionths(p)
		if want := wantMillionths(chance); m != want || e != api.OK {
			t.Fatal("P12.7: Millionths of", p, m, e, "and not", want)
		}
		if chance.Cmp(big.NewRat(int64(m), api.Million)) == 0 && m%api.Million > 0 {
			whole++
		}
	}
	each(t, 12, 3000, small, try)
	each(t, 13, 80, great, try)
	each(t, 14, 500, copies, try)
	if whole < 30 {
		t.Error("too few chances that are whole millionths:", whole)
	}
}

// TestWholeMillionths checks chances on both sides of a whole number of millionths.
func TestWholeMillionths(t *testing.T) {
	two := func(chance ...int) api.Peril {
		p := api.Peril{Code: api.Code{Data: 1, Globals: 1}, At: []int{0, 1}, Chance: chance}
		return p
	}
	for _, x := range []struct {
		p    api.Peril
		want int
	}{
		{two(2, 2), 15625}, {two(1, 16), 62500}, {two(16, 16), 1000000}, {two(0, 16), 0}, {two(1, 1), 3907}, {two(1, 2), 7813}, {two(1, 4), 15625}, {two(3, 1), 11719}, {two(15, 15), 878907}, {two(16, 15), 937500},
	} {
		if m, e := risk.Millionths(x.p); m != x.want || e != api.OK {
			t.Error("P12.7: Millionths of", x.p, m, e)
		}
	}
	// Nearly certain, and certain, over 16^12, where a million times Loss is more than an int can hold.
	p := api.Peril{Code: api.Code{Data: 12}, Chance: slices.Repeat([]int{12}, 12)}
	for d := range 12 {
		p.At = append(p.At, d)
	}
	if m, e := risk.Millionths(p); m != 1000000 || e != api.OK { // all but 4^12 of 16^12
		t.Error("P12.7: Millionths of", p, m, e)
	}
	p.Chance = append(slices.Repeat([]int{0}, 10), 8, 8)
	if m, e := risk.Millionths(p); m != 750000 || e != api.OK {
		t.Error("P12.7: Millionths of", p, m, e)
	}
}
