package domain_test

import (
	"math"
	"math/rand"
	"slices"
	"testing"

	"quietus/api"
)

// allLevels are the levels, the lowest one first.
var allLevels = []int{api.LvDisk, api.LvRack, api.LvHouse, api.LvOwner}

// noLevels are numbers that are not levels.
var noLevels = []int{math.MinInt, -2, -1, 4, 5, 1 << 32, math.MaxInt}

// someNumbers are numbers of which many are not the index of anything.
var someNumbers = []int{math.MinInt, math.MinInt + 1, -1 << 32, -2, -1, 0, 1, 2, 3, 7, 8, 11, 12, 23, 24, 63, 64, 65, 1 << 32, math.MaxInt - 1, math.MaxInt}

// example are the domains of the chapter.
func example() api.Domains {
	return api.Domains{
		Disks:  []int{0, 0, 1, 2},
		Racks:  []api.Rack{{House: 0}, {House: 0}, {House: 1, Van: true}},
		Houses: []int{0, 1},
		Owners: 2,
	}
}

// filled are domains without errors that have so many disks, racks, houses and owners; where there is nothing that they could be in, there are none.
func filled(r *rand.Rand, disks, racks, houses, owners int) api.Domains {
	d := api.Domains{Owners: owners}
	if owners > 0 {
		for range houses {
			d.Houses = append(d.Houses, r.Intn(owners))
		}
	}
	if len(d.Houses) > 0 {
		for range racks {
			d.Racks = append(d.Racks, api.Rack{House: r.Intn(houses), Van: r.Intn(2) == 0})
		}
	}
	if len(d.Racks) > 0 {
		for range disks {
			d.Disks = append(d.Disks, r.Intn(racks))
		}
	}
	return d
}

// anyDomains are domains without errors: few of them, some, or as many as there may be.
func anyDomains(r *rand.Rand) api.Domains {
	switch r.Intn(8) {
	case 0:
		return filled(r, api.MaxDisks, api.MaxRacks, api.MaxHouses, api.MaxOwners)
	case 1, 2, 3:
		return filled(r, r.Intn(7), r.Intn(5), r.Intn(4), r.Intn(4))
	}
	return filled(r, r.Intn(api.MaxDisks+1), r.Intn(api.MaxRacks+1), r.Intn(api.MaxHouses+1), r.Intn(api.MaxOwners+1))
}

// anyLayout is a layout of few or many pieces, some of which are nowhere.
func anyLayout(r *rand.Rand, d api.Domains) []int {
	layout := make([]int, r.Intn(api.MaxPieces+1))
	for piece := range layout {
		switch {
		case r.Intn(8) == 0:
			layout[piece] = someNumbers[r.Intn(len(someNumbers))]
		case len(d.Disks) > 0:
			layout[piece] = r.Intn(len(d.Disks))
		}
	}
	return layout
}

// anyFailed is a list of domains of a level, with repetitions and with numbers that are not domains.
func anyFailed(r *rand.Rand, d api.Domains, level int) []int {
	var failed []int
	for range r.Intn(6) {
		failed = append(failed, someNumbers[r.Intn(len(someNumbers))])
		if n := wantSize(d, level); n > 0 {
			failed = append(failed, r.Intn(n))
		}
	}
	return failed
}

// isIn says whether a number is from 0 to many - 1.
func isIn(n, many int) bool { return 0 <= n && n < many }

// wantCheck is the first error of domains, each limit and each number one after the other.
func wantCheck(d api.Domains) api.Errno {
	e := api.OK
	for _, house := range d.Houses {
		if !isIn(house, d.Owners) {
			e = api.ErrArg
		}
	}
	for _, rack := range d.Racks {
		if !isIn(rack.House, len(d.Houses)) {
			e = api.ErrArg
		}
	}
	for _, disk := range d.Disks {
		if !isIn(disk, len(d.Racks)) {
			e = api.ErrArg
		}
	}
	if len(d.Disks) > 64 || len(d.Racks) > 24 || len(d.Houses) > 12 || d.Owners < 0 || d.Owners > 8 {
		e = api.ErrLimit
	}
	return e
}

// wantSize is the number of domains of a level, of domains without errors.
func wantSize(d api.Domains, level int) int {
	return map[int]int{api.LvDisk: len(d.Disks), api.LvRack: len(d.Racks), api.LvHouse: len(d.Houses), api.LvOwner: d.Owners}[level]
}

// wantOf is the domain of a level in which a disk is, of domains without errors.
func wantOf(d api.Domains, level, disk int) int {
	if !isIn(disk, len(d.Disks)) || !slices.Contains(allLevels, level) {
		return -1
	}
	rack := d.Disks[disk]
	house := d.Racks[rack].House
	return []int{disk, rack, house, d.Houses[house]}[level]
}

// wantMembers are the disks in a domain of a level, of domains without errors.
func wantMembers(d api.Domains, level, n int) []int {
	var l []int
	for disk := range d.Disks {
		if n != -1 && wantOf(d, level, disk) == n {
			l = append(l, disk)
		}
	}
	return l
}

// wantRelate is the lowest level of which both disks are in one domain, of domains without errors.
func wantRelate(d api.Domains, a, b int) int {
	if !isIn(a, len(d.Disks)) || !isIn(b, len(d.Disks)) {
		return 4
	}
	for _, level := range allLevels {
		if wantOf(d, level, a) == wantOf(d, level, b) {
			return level
		}
	}
	return 4
}

// wantHolds counts, for each domain of a level, the pieces on its disks, of domains without errors.
func wantHolds(d api.Domains, level int, layout []int) []int {
	var l []int
	for n := range wantSize(d, level) {
		many := 0
		for _, disk := range layout {
			if len(layout) <= 24 && slices.Contains(wantMembers(d, level, n), disk) {
				many++
			}
		}
		l = append(l, many)
	}
	return l
}

// wantLeft is the set of the pieces on disks that have not failed, of domains without errors.
func wantLeft(d api.Domains, level int, layout, failed []int) int {
	if len(layout) > 24 || !slices.Contains(allLevels, level) {
		return 0
	}
	gone := map[int]bool{}
	for _, n := range failed {
		for _, disk := range wantMembers(d, level, n) {
			gone[disk] = true
		}
	}
	set := 0
	for piece, disk := range layout {
		if isIn(disk, len(d.Disks)) && !gone[disk] {
			set += 1 << piece
		}
	}
	return set
}

// same says whether two lists are equal; an empty one may be nil.
func same(a, b []int) bool { return slices.Equal(a, b) }

// equal says whether domains are the same.
func equal(a, b api.Domains) bool {
	return same(a.Disks, b.Disks) && slices.Equal(a.Racks, b.Racks) && same(a.Houses, b.Houses) && a.Owners == b.Owners
}

// copied are domains in memory of their own.
func copied(d api.Domains) api.Domains {
	return api.Domains{Disks: append([]int{}, d.Disks...), Racks: append([]api.Rack{}, d.Racks...), Houses: append([]int{}, d.Houses...), Owners: d.Owners}
}

// isZero says whether domains are the zero value, but for empty lists.
func isZero(d api.Domains) bool { return equal(d, api.Domains{}) }

// each calls a function with many domains without errors.
func each(t *testing.T, seed int64, many int, f func(r *rand.Rand, d api.Domains)) {
	t.Helper()
	r := rand.New(rand.NewSource(seed))
	f(r, example())
	f(r, api.Domains{})
	for range many {
		d := anyDomains(r)
		before := copied(d)
		f(r, d)
		if !equal(d, before) || t.Failed() {
			t.Fatal("chapter 10: with", before, "the argument is", d)
		}
	}
}
