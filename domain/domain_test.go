package domain_test

import (
	"math"
	"math/rand"
	"slices"
	"testing"

	"quietus/api"
	"quietus/domain"
)

// TestExamples checks the examples of the chapter.
func TestExamples(t *testing.T) {
	d, layout := example(), []int{0, 2, 3, -1}
	if n := domain.Size(d, api.LvHouse); n != 2 {
		t.Error("P10.2: Size of LvHouse", n)
	}
	if n := domain.Of(d, api.LvOwner, 3); n != 1 {
		t.Error("P10.2: Of LvOwner and 3", n)
	}
	if l := domain.Members(d, api.LvHouse, 0); !same(l, []int{0, 1, 2}) {
		t.Error("P10.2: Members of LvHouse and 0", l)
	}
	for _, x := range [][3]int{{0, 1, 1}, {0, 2, 2}, {0, 3, 4}, {3, 3, 0}} {
		if n := domain.Relate(d, x[0], x[1]); n != x[2] {
			t.Error("P10.3: Relate of", x, n)
		}
	}
	if l := domain.Holds(d, api.LvHouse, layout); !same(l, []int{2, 1}) {
		t.Error("P10.4: Holds of LvHouse", l)
	}
	if n := domain.Left(d, api.LvRack, layout, []int{1}); n != 5 {
		t.Error("P10.4: Left of LvRack and 1", n)
	}
	sold, e := domain.Sell(d, 1, 0)
	if n := domain.Relate(sold, 0, 3); n != 3 || e != api.OK {
		t.Error("P10.5: Relate after Sell", n, e)
	}
	shipped, e := domain.Ship(d, 2, 0)
	if n := domain.Relate(shipped, 0, 3); n != 2 || e != api.OK {
		t.Error("P10.5: Relate after Ship", n, e)
	}
	if got, e := domain.Ship(d, 0, 0); !isZero(got) || e != api.ErrState {
		t.Error("P10.5: Ship of the rack 0", got, e)
	}
	if !equal(d, example()) {
		t.Error("chapter 10: the arguments have changed:", d)
	}
}

// TestLimits checks how many disks, racks, houses and owners there may be, and that these limits come before all other errors.
func TestLimits(t *testing.T) {
	most := [4]int{64, 24, 12, 8}
	over := func(k int) [4]int {
		many := most
		many[k]++
		return many
	}
	made := func(many [4]int, bad int) api.Domains {
		return api.Domains{Disks: slices.Repeat([]int{bad}, many[0]), Racks: slices.Repeat([]api.Rack{{House: bad}}, many[1]), Houses: slices.Repeat([]int{bad}, many[2]), Owners: many[3]}
	}
	if e := domain.Check(made(most, 0)); e != api.OK {
		t.Error("P10.1: as many as there may be:", e)
	}
	for k := range most {
		for _, bad := range []int{0, -1, 100} {
			if e := domain.Check(made(over(k), bad)); e != api.ErrLimit {
				t.Error("P10.1: one more than there may be:", over(k), bad, e)
			}
		}
		if e := domain.Check(made(most, -1)); e != api.ErrArg {
			t.Error("P10.1: negative numbers:", e)
		}
	}
	for _, owners := range []int{math.MinInt, -1, 9, 1 << 32, math.MaxInt} {
		for _, d := range []api.Domains{{}, example(), made(most, -1), made(most, 0)} {
			d.Owners = owners
			if e := domain.Check(d); e != api.ErrLimit {
				t.Error("P10.1: so many owners:", owners, e)
			}
		}
	}
	for owners := range 9 {
		if e := domain.Check(api.Domains{Owners: owners}); e != api.OK {
			t.Error("P10.1: so many owners, and nothing else:", owners, e)
		}
	}
}

// TestPlaces replaces each of the numbers of domains by others: it has to be an index of what is there.
func TestPlaces(t *testing.T) {
	each(t, 1, 60, func(r *rand.Rand, d api.Domains) {
		if e := domain.Check(d); e != api.OK {
			t.Fatal("P10.1: Check of", d, e)
		}
		numbers := append([]int{len(d.Racks) - 1, len(d.Racks), len(d.Houses) - 1, len(d.Houses), d.Owners - 1, d.Owners}, someNumbers...)
		for _, n := range numbers {
			for k := range d.Disks {
				x := copied(d)
				x.Disks[k] = n
				if e := domain.Check(x); e != wantCheck(x) {
					t.Fatal("P10.1: Check with the disk", k, "in the rack", n, "of", len(d.Racks), e)
				}
			}
			for k := range d.Racks {
				x := copied(d)
				x.Racks[k].House = n
				if e := domain.Check(x); e != wantCheck(x) {
					t.Fatal("P10.1: Check with the rack", k, "in the house", n, "of", len(d.Houses), e)
				}
			}
			for k := range d.Houses {
				x := copied(d)
				x.Houses[k] = n
				if e := domain.Check(x); e != wantCheck(x) {
					t.Fatal("P10.1: Check with the house", k, "of the owner", n, "of", d.Owners, e)
				}
			}
		}
	})
}

// TestNowhere checks domains that are in nothing at all, and that a van is as good as another rack.
func TestNowhere(t *testing.T) {
	for _, x := range []struct {
		d api.Domains
		e api.Errno
	}{
		{api.Domains{}, api.OK},
		{api.Domains{Disks: []int{}, Racks: []api.Rack{}, Houses: []int{}}, api.OK},
		{api.Domains{Disks: []int{0}}, api.ErrArg},
		{api.Domains{Racks: []api.Rack{{}}}, api.ErrArg},
		{api.Domains{Houses: []int{0}}, api.ErrArg},
		{api.Domains{Houses: []int{0}, Owners: 1}, api.OK},
		{api.Domains{Racks: []api.Rack{{}}, Houses: []int{0}, Owners: 1}, api.OK},
		{api.Domains{Racks: []api.Rack{{Van: true}}, Houses: []int{0}, Owners: 1}, api.OK},
		{api.Domains{Racks: []api.Rack{{House: 1, Van: true}}, Houses: []int{0}, Owners: 1}, api.ErrArg},
		{api.Domains{Disks: []int{0}, Racks: []api.Rack{{}}, Owners: 1}, api.ErrArg},
		{api.Domains{Disks: []int{0}, Houses: []int{0}, Owners: 1}, api.ErrArg},
		{api.Domains{Disks: []int{0}, Racks: []api.Rack{{}}, Houses: []int{0}}, api.ErrArg},
	} {
		if e := domain.Check(x.d); e != x.e {
			t.Error("P10.1: Check of", x.d, e)
		}
	}
}

// TestFind compares Size, Of and Members with the reference, for all levels, disks and domains, and numbers that are none.
func TestFind(t *testing.T) {
	each(t, 2, 150, func(r *rand.Rand, d api.Domains) {
		for _, level := range append(noLevels, allLevels...) {
			if n := domain.Size(d, level); n != wantSize(d, level) {
				t.Fatal("P10.2: Size of", d, level, n)
			}
			numbers := slices.Clone(someNumbers)
			for n := range max(len(d.Disks), d.Owners) + 2 {
				numbers = append(numbers, n)
			}
			for _, n := range numbers {
				if got := domain.Of(d, level, n); got != wantOf(d, level, n) {
					t.Fatal("P10.2: Of", d, level, n, got)
				}
				if got := domain.Members(d, level, n); !same(got, wantMembers(d, level, n)) {
					t.Fatal("P10.2: Members of", d, level, n, got)
				}
			}
		}
	})
}

// TestRelate compares Relate with the reference, for all pairs of disks, and numbers that are none.
func TestRelate(t *testing.T) {
	seen := [5]int{}
	each(t, 3, 60, func(r *rand.Rand, d api.Domains) {
		numbers := slices.Clone(someNumbers)
		for n := range len(d.Disks) + 1 {
			numbers = append(numbers, n)
		}
		for _, a := range numbers {
			for _, b := range numbers {
				n := domain.Relate(d, a, b)
				if n != wantRelate(d, a, b) {
					t.Fatal("P10.3: Relate of", d, a, b, n)
				}
				seen[n]++
			}
		}
	})
	if slices.Min(seen[:]) < 100 {
		t.Error("too few cases:", seen)
	}
}

// TestHoldsAndLeft compares Holds and Left with the reference.
func TestHoldsAndLeft(t *testing.T) {
	each(t, 4, 1500, func(r *rand.Rand, d api.Domains) {
		for _, level := range append(noLevels, allLevels...) {
			layout, failed := anyLayout(r, d), anyFailed(r, d, level)
			layoutBefore, failedBefore := slices.Clone(layout), slices.Clone(failed)
			if got := domain.Holds(d, level, layout); !same(got, wantHolds(d, level, layout)) {
				t.Fatal("P10.4: Holds of", d, level, layout, got)
			}
			if got := domain.Left(d, level, layout, failed); got != wantLeft(d, level, layout, failed) {
				t.Fatal("P10.4: Left of", d, level, layout, failed, got)
			}
			if !same(layout, layoutBefore) || !same(failed, failedBefore) {
				t.Fatal("chapter 10: arguments that have changed:", layout, failed, layoutBefore, failedBefore)
			}
		}
	})
}

// TestLongLayouts checks that a layout of more pieces than there may be counts as an empty one.
func TestLongLayouts(t *testing.T) {
	d := example()
	for _, x := range []struct{ many, each, left int }{{0, 0, 0}, {1, 1, 1}, {23, 23, 1<<23 - 1}, {24, 24, 1<<24 - 1}, {25, 0, 0}, {64, 0, 0}, {65, 0, 0}, {1000, 0, 0}} {
		layout := slices.Repeat([]int{3}, x.many)
		for level, want := range [][]int{{0, 0, 0, x.each}, {0, 0, x.each}, {0, x.each}, {0, x.each}} {
			if got := domain.Holds(d, level, layout); !same(got, want) {
				t.Error("P10.4: Holds of so many pieces:", level, x.many, got)
			}
			if got := domain.Left(d, level, layout, []int{0}); got != x.left {
				t.Error("P10.4: Left of so many pieces:", level, x.many, got)
			}
		}
	}
}

// TestManyFailed gives long lists of failed domains, with numbers that are not domains, and repetitions.
func TestManyFailed(t *testing.T) {
	d, layout := example(), []int{0, 2, 3, -1, 1, 4}
	for level, want := range []int{0b10110, 0b00110, 0b00100, 0b00100} {
		for _, failed := range [][]int{{0}, {0, 0}, {-1, 0, 4}, {math.MinInt, math.MaxInt, 0}, append(slices.Repeat([]int{7}, 10000), 0), slices.Repeat([]int{0}, 10000)} {
			if got := domain.Left(d, level, layout, failed); got != want {
				t.Errorf("P10.4: Left of the level %d, of so many failed ones: %d: %b", level, len(failed), got)
			}
		}
		for _, failed := range [][]int{nil, {}, {-1}, {-1, -1, 4, 64}} {
			if got := domain.Left(d, level, layout, failed); got != 0b10111 {
				t.Errorf("P10.4: Left of the level %d when nothing failed: %b", level, got)
			}
		}
	}
}
