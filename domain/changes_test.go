package domain_test

import (
	"math"
	"math/rand"
	"slices"
	"testing"

	"quietus/api"
	"quietus/domain"
)

// spoilt are domains with an error each, of each kind.
func spoilt() []api.Domains {
	with := func(change func(d *api.Domains)) api.Domains {
		d := example()
		change(&d)
		return d
	}
	return []api.Domains{
		with(func(d *api.Domains) { d.Owners = -1 }),
		with(func(d *api.Domains) { d.Owners = 9 }),
		with(func(d *api.Domains) { d.Owners = 1 }),
		with(func(d *api.Domains) { d.Owners = math.MaxInt }),
		with(func(d *api.Domains) { d.Disks = make([]int, 65) }),
		with(func(d *api.Domains) { d.Racks = append(d.Racks, make([]api.Rack, 22)...) }),
		with(func(d *api.Domains) { d.Houses = append(d.Houses, make([]int, 11)...) }),
		with(func(d *api.Domains) { d.Disks[1] = 3 }),
		with(func(d *api.Domains) { d.Disks[1] = -1 }),
		with(func(d *api.Domains) { d.Racks[0].House = 2 }),
		with(func(d *api.Domains) { d.Racks[1].House = -1 }),
		with(func(d *api.Domains) { d.Houses[0] = 2 }),
		with(func(d *api.Domains) { d.Houses[1] = math.MinInt }),
		{Disks: []int{0}},
		{Racks: []api.Rack{{Van: true}}},
		{Houses: []int{0}},
	}
}

// nothing checks that all functions find nothing in domains that have an error.
func nothing(t *testing.T, d api.Domains, level, a, b int, layout []int) {
	t.Helper()
	size, of, members := domain.Size(d, level), domain.Of(d, level, a), domain.Members(d, level, a)
	holds, left := domain.Holds(d, level, layout), domain.Left(d, level, layout, []int{b})
	if relate := domain.Relate(d, a, b); size != 0 || of != -1 || len(members) != 0 || relate != 4 || len(holds) != 0 || left != 0 {
		t.Fatal("P10.1: with", d, level, a, b, layout, size, of, members, relate, holds, left)
	}
	if got, e := domain.Sell(d, a, b); !isZero(got) || e != api.ErrArg {
		t.Fatal("P10.1: Sell with", d, a, b, got, e)
	}
	if got, e := domain.Ship(d, a, b); !isZero(got) || e != api.ErrArg {
		t.Fatal("P10.1: Ship with", d, a, b, got, e)
	}
}

// TestSpoilt calls all functions with domains that have an error.
func TestSpoilt(t *testing.T) {
	for k, d := range spoilt() {
		if e := domain.Check(d); e == api.OK || e != wantCheck(d) {
			t.Error("P10.1: Check of", k, e)
		}
		for _, level := range append(noLevels, allLevels...) {
			for a := -1; a < 5; a++ {
				for b := -1; b < 5; b++ {
					nothing(t, d, level, a, b, []int{0, 2, 3, -1})
				}
			}
		}
	}
}

// TestSell sells all houses to all owners, and what is not there.
func TestSell(t *testing.T) {
	each(t, 5, 100, func(r *rand.Rand, d api.Domains) {
		for _, house := range append([]int{len(d.Houses) - 1, len(d.Houses)}, someNumbers...) {
			for _, owner := range append([]int{d.Owners - 1, d.Owners}, someNumbers...) {
				var want api.Domains
				wantE := api.ErrNone
				if isIn(house, len(d.Houses)) && isIn(owner, d.Owners) {
					want, wantE = copied(d), api.OK
					want.Houses[house] = owner
				}
				if got, e := domain.Sell(d, house, owner); !equal(got, want) || e != wantE {
					t.Fatal("P10.5: Sell of", d, house, owner, got, e)
				}
			}
		}
	})
}

// TestShip drives all racks to all houses, and what is not there.
func TestShip(t *testing.T) {
	seen := map[api.Errno]int{}
	each(t, 6, 100, func(r *rand.Rand, d api.Domains) {
		for _, rack := range append([]int{len(d.Racks) - 1, len(d.Racks)}, someNumbers...) {
			for _, house := range append([]int{len(d.Houses) - 1, len(d.Houses)}, someNumbers...) {
				var want api.Domains
				wantE := api.OK
				switch {
				case !isIn(rack, len(d.Racks)) || !isIn(house, len(d.Houses)):
					wantE = api.ErrNone
				case !d.Racks[rack].Van:
					wantE = api.ErrState
				default:
					want = copied(d)
					want.Racks[rack].House = house
				}
				got, e := domain.Ship(d, rack, house)
				if !equal(got, want) || e != wantE {
					t.Fatal("P10.5: Ship of", d, rack, house, got, e)
				}
				seen[e]++
			}
		}
	})
	if seen[api.OK] < 100 || seen[api.ErrState] < 100 || seen[api.ErrNone] < 100 {
		t.Error("too few cases:", seen)
	}
}

// TestNewMemory writes to results: neither the arguments nor later results change, nor the other lists of the result.
func TestNewMemory(t *testing.T) {
	each(t, 7, 300, func(r *rand.Rand, d api.Domains) {
		if len(d.Houses) == 0 {
			return
		}
		before, layout := copied(d), anyLayout(r, d)
		house, rack := r.Intn(len(d.Houses)), slices.Index(d.Racks, api.Rack{House: r.Intn(len(d.Houses)), Van: true})
		sell := func() (api.Domains, api.Errno) { return domain.Sell(d, house, d.Owners-1) }
		ship := func() (api.Domains, api.Errno) { return domain.Ship(d, rack, house) }
		for _, change := range []func() (api.Domains, api.Errno){sell, ship} {
			got, _ := change()
			want := copied(got)
			spoil(got)
			again, _ := change()
			if !equal(d, before) || !equal(again, want) {
				t.Fatal("chapter 10: results in shared memory:", d, before, again, want)
			}
		}
		for _, level := range allLevels {
			for _, f := range []func() []int{
				func() []int { return domain.Members(d, level, 0) },
				func() []int { return domain.Holds(d, level, layout) },
			} {
				got := f()
				want := slices.Clone(got)
				for k := range got {
					got[k] = -5
				}
				if again := f(); !equal(d, before) || !same(again, want) {
					t.Fatal("chapter 10: results in shared memory:", d, level, again, want)
				}
			}
		}
	})
}

// TestSharedArguments gives domains whose lists share memory: only the one that is meant changes.
func TestSharedArguments(t *testing.T) {
	list := []int{0, 0, 0}
	d := api.Domains{Disks: list[:2], Racks: []api.Rack{{Van: true}}, Houses: list[1:], Owners: 2}
	got, e := domain.Sell(d, 0, 1)
	if want := (api.Domains{Disks: []int{0, 0}, Racks: d.Racks, Houses: []int{1, 0}, Owners: 2}); !equal(got, want) || e != api.OK {
		t.Error("P10.5: Sell of", d, got, e)
	}
	got, e = domain.Ship(d, 0, 1)
	if want := (api.Domains{Disks: []int{0, 0}, Racks: []api.Rack{{House: 1, Van: true}}, Houses: []int{0, 0}, Owners: 2}); !equal(got, want) || e != api.OK {
		t.Error("P10.5: Ship of", d, got, e)
	}
	got.Disks[1] = 5
	if !same(got.Houses, []int{0, 0}) || !same(list, []int{0, 0, 0}) || d.Racks[0].House != 0 {
		t.Error("chapter 10: results in shared memory:", got, list, d)
	}
}

// spoil writes to all of domains, and behind the ends of their lists.
func spoil(d api.Domains) {
	for k := range d.Disks {
		d.Disks[k] = -5
	}
	for k := range d.Racks {
		d.Racks[k] = api.Rack{House: -5}
	}
	for k := range d.Houses {
		d.Houses[k] = -5
	}
	_, _, _ = append(d.Disks, -5), append(d.Racks, api.Rack{House: -5}), append(d.Houses, -5)
}

// TestAnyArguments calls all functions with any numbers: none of them panics, and domains with an error have nothing.
func TestAnyArguments(t *testing.T) {
	r := rand.New(rand.NewSource(8))
	any := func() int { return someNumbers[r.Intn(len(someNumbers))] }
	found := 0
	for range 30000 {
		d := anyDomains(r)
		for range r.Intn(3) {
			switch k := r.Intn(6); {
			case k == 0:
				d.Owners = any()
			case k == 1 && len(d.Houses) > 0:
				d.Houses[r.Intn(len(d.Houses))] = any()
			case k == 2 && len(d.Racks) > 0:
				d.Racks[r.Intn(len(d.Racks))].House = any()
			case k == 3 && len(d.Disks) > 0:
				d.Disks[r.Intn(len(d.Disks))] = any()
			case k == 4:
				d.Disks = append(d.Disks, any())
			case k == 5:
				d.Houses = append(d.Houses, any())
			}
		}
		e := domain.Check(d)
		if e != wantCheck(d) {
			t.Fatal("P10.1: Check of", d, e)
		}
		layout := make([]int, r.Intn(30))
		for k := range layout {
			layout[k] = any()
		}
		level := any()
		if e != api.OK {
			found++
			nothing(t, d, level, any(), any(), layout)
			continue
		}
		domain.Members(d, level, any())
		domain.Relate(d, any(), any())
		domain.Holds(d, level, layout)
		domain.Left(d, level, layout, []int{any(), any()})
		domain.Sell(d, any(), any())
		domain.Ship(d, any(), any())
	}
	if found < 5000 || found > 25000 {
		t.Error("too few cases:", found)
	}
}
