package place_test

import (
	"math/rand"
	"slices"
	"testing"

	"quietus/api"
	"quietus/code"
	"quietus/place"
)

// TestFind compares Find with all completions.
func TestFind(t *testing.T) {
	seen := map[api.Errno]int{}
	try := func(p api.Placing, layout []int) {
		before := slices.Clone(layout)
		want, wantE := wantFind(p, layout)
		got, e := place.Find(p, layout)
		if !slices.Equal(got, want) || e != wantE || !slices.Equal(layout, before) {
			t.Fatal("P11.6: Find of", p, before, got, e, "and not", want, wantE)
		}
		seen[wantE]++
	}
	each(t, 31, 4000, small, func(r *rand.Rand, p api.Placing) {
		layout := anyLayout(r, p, 1+r.Intn(8))
		try(p, layout)
		try(p, spoilt(r, p, layout))
	})
	each(t, 32, 60, mobile, func(r *rand.Rand, p api.Placing) { try(p, anyLayout(r, p, 3)) })
	enough(t, seen, 20, api.OK, api.ErrArg, api.ErrLimit, api.ErrNone, api.ErrDuty, api.ErrFull, api.ErrRange, api.ErrLost, api.ErrFloor)
}

// mobile is a task with several racks and much room, whose completions fail by Floor alone, mostly.
func mobile(r *rand.Rand) api.Placing {
	p := anyTask(r, anyDomains(r, 4+r.Intn(3), 3+r.Intn(4), 1+r.Intn(2), 1), 8)
	p.Houses = 1<<len(p.Domains.Houses) - 1
	p.Spread = [4]int{2, 2 + r.Intn(3), 24, 24}
	for disk := range p.Room {
		p.Room[disk] = 2
	}
	p.Floor = 2 + r.Intn(3)
	return p
}

// TestNotTheFirst checks tasks in which Find has to go on where Choose stops.
func TestNotTheFirst(t *testing.T) {
	further := 0
	each(t, 33, 400, mobile, func(r *rand.Rand, p api.Placing) {
		layout := slices.Repeat([]int{-1}, code.Pieces(p.Code))
		for piece := 4; piece < len(layout); piece++ {
			layout[piece] = piece % len(p.Domains.Disks)
		}
		want, wantE := wantFind(p, layout)
		got, e := place.Find(p, layout)
		if !slices.Equal(got, want) || e != wantE {
			t.Fatal("P11.6: Find of", p, layout, got, e, "and not", want, wantE)
		}
		if chosen, _ := place.Choose(p, layout); e == api.OK && !slices.Equal(chosen, got) {
			further++
		}
	})
	if further < 20 {
		t.Error("too few cases:", further)
	}
}

// TestFindLimits checks how many pieces may be free, and how many disks there may be; ErrLost comes before, and ErrFloor behind this.
func TestFindLimits(t *testing.T) {
	for pieces := 1; pieces <= 8; pieces++ {
		for disks := 15; disks <= 18; disks++ {
			for many := range pieces + 1 {
				for _, want := range []api.Errno{api.OK, api.ErrFloor, api.ErrLost} {
					p, layout := wide(api.Code{Data: pieces}, 1)
					for k := range layout {
						layout[k] = 14
					}
					for k := range many {
						layout[k] = -1
					}
					p.Domains.Racks = make([]api.Rack, disks)
					p.Domains.Disks, p.Room = nil, slices.Repeat([]int{24}, disks)
					for k := range disks {
						p.Domains.Disks = append(p.Domains.Disks, k)
					}
					if want == api.ErrFloor { // no piece of this code can be lost
						p.Floor = 2
					}
					if want == api.ErrLost {
						p.Spread[api.LvOwner] = pieces - 1
					}
					switch {
					case want == api.ErrLost && many == 0:
						want = api.ErrRange
					case want != api.ErrLost && (many > 4 || disks > 16):
						want = api.ErrLimit
					}
					if l, e := place.Find(p, layout); e != want || len(l) > 0 != (e == api.OK) {
						t.Fatal("P11.6: Find with", many, "free pieces of", pieces, "and", disks, "disks:", l, e, "and not", want)
					}
				}
			}
		}
	}
}

// crowd is a task with as many disks as a search may have, on which pieces are that are not free; three racks may fail.
func crowd(r *rand.Rand) (api.Placing, []int) {
	p := anyTask(r, anyDomains(r, 16, 16, 1, 1), 24)
	for disk := range p.Room {
		p.Domains.Disks[disk], p.Room[disk] = disk, 24
	}
	p.Spread, p.Floor, p.Houses = [4]int{24, 24, 24, 24}, 3+r.Intn(2), 1
	layout := make([]int, code.Pieces(p.Code))
	for piece := range layout {
		layout[piece] = (piece*7 + 3) % 16
	}
	for range 4 {
		layout[r.Intn(len(layout))] = -1
	}
	return p, layout
}

// TestGreatSearches checks results for 16 disks: they are right, and of many lesser completions none is.
func TestGreatSearches(t *testing.T) {
	r := rand.New(rand.NewSource(34))
	seen := map[api.Errno]int{}
	for range 300 {
		p, layout := crowd(r)
		got, e := place.Find(p, layout)
		seen[e]++
		if e == api.OK && wantRight(p, got) != api.OK || e != api.OK && len(got) > 0 {
			t.Fatal("P11.6: Find of", p, layout, got, e)
		}
		tried := 0
		completions(p, layout, func(lesser []int) bool {
			tried++
			if e == api.OK && slices.Compare(lesser, got) >= 0 || tried > 400 {
				return true
			}
			if place.Right(p, lesser) == api.OK {
				t.Fatal("P11.6: Find of", p, layout, got, e, "and not", lesser)
			}
			return false
		})
	}
	enough(t, seen, 20, api.OK, api.ErrFloor)
}

// TestFindAmongAll checks that a single completion is found, wherever it is: all other racks hold another piece of the same group.
func TestFindAmongAll(t *testing.T) {
	for want := range 6 {
		p, _ := wide(api.Code{Data: 5, Groups: [][]int{{0, 1, 2, 3, 4}}}, 2)
		layout := []int{-1, 0, 0, 0, 0, 0}
		rest := []int{0, 1, 2, 3, 4, 5}
		rest = slices.Delete(rest, want, want+1)
		for k, disk := range rest {
			layout[k+1] = disk
		}
		got, e := place.Find(p, layout)
		full := slices.Clone(layout)
		full[0] = want
		if !slices.Equal(got, full) || e != api.OK {
			t.Error("P11.6: Find of", layout, got, e, "and not", full)
		}
		if chosen, _ := place.Choose(p, layout); !slices.Equal(chosen, full) {
			t.Error("P11.4: Choose of", layout, chosen)
		}
		for disk := range p.Room { // with more room, the others would lose two pieces of the group
			p.Room[disk] = 2
		}
		if got, e := place.Find(p, layout); !slices.Equal(got, full) || e != api.OK {
			t.Error("P11.6: Find of", layout, got, e, "and not", full)
		}
	}
}
