package moves_test

import (
	"math"
	"math/rand"
	"slices"
	"testing"

	"quietus/api"
	"quietus/code"
)

// someNumbers are numbers of which many are not the index of anything.
var someNumbers = []int{math.MinInt, math.MinInt + 1, -1 << 32, -256, -25, -2, -1, 0, 1, 2, 3, 4, 5, 7, 8, 9, 23, 24, 25, 63, 64, 65, 255, 256, 257, 258, 1 << 32, math.MaxInt - 1, math.MaxInt}

// example is the shift of the chapter.
func example() api.Shift {
	return api.Shift{
		Domains: api.Domains{Disks: []int{0, 1, 2, 3, 4}, Racks: make([]api.Rack, 5), Houses: []int{0}, Owners: 1},
		Code:    api.Code{Data: 2, Globals: 1},
		Floor:   2,
		Room:    []int{0, 0, 0, 1, 0},
		From:    []int{0, 1, 2},
		To:      []int{3, 1, 0},
	}
}

// anyDomains are domains without errors, with so many disks, racks, houses and owners. As long as there are racks, disks are in different ones, mostly.
func anyDomains(r *rand.Rand, disks, racks, houses, owners int) api.Domains {
	d := api.Domains{Owners: owners}
	for range houses {
		d.Houses = append(d.Houses, r.Intn(owners))
	}
	for range racks {
		d.Racks = append(d.Racks, api.Rack{House: r.Intn(houses), Van: r.Intn(3) == 0})
	}
	for k := range disks {
		rack := (k*5 + 2) % racks
		if r.Intn(5) == 0 {
			rack = r.Intn(racks)
		}
		d.Disks = append(d.Disks, rack)
	}
	return d
}

// anyCode is a code without errors, with at most so many pieces.
func anyCode(r *rand.Rand, most int) api.Code {
	c := api.Code{Data: 1 + r.Intn(min(most, api.MaxData))}
	c.Globals = r.Intn(min(most-c.Data, api.MaxGlobals) + 1)
	for _, i := range r.Perm(c.Data) {
		switch k := len(c.Groups); {
		case k > 0 && r.Intn(3) > 0:
			c.Groups[k-1] = append(c.Groups[k-1], i)
			slices.Sort(c.Groups[k-1])
		case c.Data+c.Globals+k < most && r.Intn(3) > 0:
			c.Groups = append(c.Groups, []int{i})
		}
	}
	return c
}

// anyShift is a shift without errors on domains, with a code of at most so many pieces, of which at most so many move. Few disks have room.
func anyShift(r *rand.Rand, d api.Domains, most, moved int) api.Shift {
	s := api.Shift{Domains: d, Code: anyCode(r, most), Floor: 1 + r.Intn(3)*r.Intn(2)}
	if distance, _ := code.Distance(s.Code); r.Intn(3) > 0 {
		s.Floor = max(1, min(api.MaxFloor, distance))
	}
	disks := len(d.Disks)
	for range d.Disks {
		s.Room = append(s.Room, r.Intn(2)*r.Intn(3))
	}
	if r.Intn(8) == 0 {
		s.Room[r.Intn(disks)] = r.Intn(api.MaxPieces + 1)
	}
	first := r.Intn(disks)
	for piece := range code.Pieces(s.Code) {
		disk := (first + piece) % disks
		if r.Intn(8) == 0 {
			disk = r.Intn(disks)
		}
		s.From = append(s.From, disk)
	}
	s.To = slices.Clone(s.From)
	movers := r.Perm(len(s.To))[:r.Intn(min(moved, len(s.To))+1)]
	cycle := r.Intn(3) == 0 // to the place of the next one
	for k, piece := range movers {
		s.To[piece] = r.Intn(disks)
		if cycle {
			s.To[piece] = s.From[movers[(k+1)%len(movers)]]
		}
	}
	return s
}

// small is a shift of so few pieces that all lists of steps can be looked through.
func small(r *rand.Rand) api.Shift {
	return anyShift(r, anyDomains(r, 1+r.Intn(7), 1+r.Intn(7), 1+r.Intn(2), 1), 1+r.Intn(6), 3)
}

// middle is a shift of more pieces, whose phases can be looked through.
func middle(r *rand.Rand) api.Shift {
	return anyShift(r, anyDomains(r, 3+r.Intn(10), 2+r.Intn(9), 1+r.Intn(3), 1+r.Intn(3)), 2+r.Intn(9), 6)
}

// great is a shift on many disks, or on as many as there may be.
func great(r *rand.Rand) api.Shift {
	d := anyDomains(r, 1+r.Intn(api.MaxDisks), 1+r.Intn(api.MaxRacks), 1+r.Intn(api.MaxHouses), 1+r.Intn(api.MaxOwners))
	if r.Intn(2) == 0 {
		d = anyDomains(r, api.MaxDisks, api.MaxRacks, api.MaxHouses, api.MaxOwners)
	}
	return anyShift(r, d, api.MaxPieces, api.MaxMoved)
}

// movers are the pieces of a shift that move.
func movers(s api.Shift) []int {
	var l []int
	for piece := range s.From {
		if s.From[piece] != s.To[piece] {
			l = append(l, piece)
		}
	}
	return l
}

// anyPhases are right phases of a shift; those of so many of ten pieces are 0.
func anyPhases(r *rand.Rand, s api.Shift, tenths int) []int {
	phases := make([]int, len(s.From))
	for _, piece := range movers(s) {
		if r.Intn(10) >= tenths {
			phases[piece] = 1 + r.Intn(2)
		}
	}
	return phases
}

// spoilt are phases with other numbers, or of another number of pieces, at times.
func spoilt(r *rand.Rand, phases []int) []int {
	phases = slices.Clone(phases)
	k := r.Intn(len(phases))
	switch r.Intn(4) {
	case 0:
		return slices.Insert(phases, k, 0)
	case 1:
		return slices.Delete(phases, k, k+1)
	default:
		phases[k] = someNumbers[r.Intn(len(someNumbers))]
	}
	return phases
}

// isIn says whether a number is from 0 to many - 1.
func isIn(n, many int) bool { return 0 <= n && n < many }

// wantPhases says whether phases are right for a shift without an error.
func wantPhases(s api.Shift, phases []int) bool {
	if len(phases) != len(s.From) {
		return false
	}
	for piece, phase := range phases {
		if !isIn(phase, 3) || s.From[piece] == s.To[piece] && phase != 0 {
			return false
		}
	}
	return true
}

// wantLeft is the set of the pieces that are on a disk of a rack which has not failed.
func wantLeft(s api.Shift, phases, racks []int) int {
	set := 0
	for piece, phase := range phases {
		var on []int
		switch phase {
		case 0:
			on = []int{s.From[piece]}
		case 1:
			on = []int{s.From[piece], s.To[piece]}
		case 2:
			on = []int{s.To[piece]}
		}
		for _, disk := range on {
			if !slices.Contains(racks, s.Domains.Disks[disk]) {
				set |= 1 << piece
			}
		}
	}
	return set
}

// wantSafe says whether the chunk is recoverable, whichever racks beside some others fail; a rack that fails twice is one that fails.
func wantSafe(s api.Shift, phases []int, failed ...int) bool {
	if !code.Recoverable(s.Code, wantLeft(s, phases, failed)) {
		return false
	}
	if len(failed) == s.Floor-1 {
		return true
	}
	for rack := range s.Domains.Racks {
		if (len(failed) == 0 || rack > failed[len(failed)-1]) && !wantSafe(s, phases, append(slices.Clone(failed), rack)...) {
			return false
		}
	}
	return true
}

// wantFits says whether each disk has room.
func wantFits(s api.Shift, phases []int) bool {
	for disk, room := range s.Room {
		came, gone := 0, 0
		for piece, phase := range phases {
			if phase > 0 && s.To[piece] == disk && s.From[piece] != disk {
				came++
			}
			if phase == 2 && s.From[piece] == disk {
				gone++
			}
		}
		if came > room+gone {
			return false
		}
	}
	return true
}

// wantEnd are the phases at the end.
func wantEnd(s api.Shift) []int {
	phases := make([]int, len(s.From))
	for _, piece := range movers(s) {
		phases[piece] = 2
	}
	return phases
}

// wantErrors is the first error of Plan, for a shift without an error, that is not ErrNone.
func wantErrors(s api.Shift, phases []int) api.Errno {
	switch {
	case !wantPhases(s, phases):
		return api.ErrArg
	case !wantFits(s, phases):
		return api.ErrFull
	case !wantSafe(s, phases) || !wantSafe(s, wantEnd(s)):
		return api.ErrFloor
	}
	return api.OK
}

// lists calls a function with all lists of steps that lead from some phases to the end, the least list first, until it returns true.
func lists(s api.Shift, phases, steps []int, f func(steps []int) bool) bool {
	if slices.Equal(phases, wantEnd(s)) {
		return f(steps)
	}
	for _, piece := range movers(s) {
		if phases[piece] == 2 {
			continue
		}
		next := slices.Clone(phases)
		next[piece]++
		if lists(s, next, append(slices.Clone(steps), piece), f) {
			return true
		}
	}
	return false
}

// holds says whether after each of some steps the phases are safe and fit.
func holds(s api.Shift, phases, steps []int) bool {
	phases = slices.Clone(phases)
	for _, piece := range steps {
		phases[piece]++
		if !wantFits(s, phases) || !wantSafe(s, phases) {
			return false
		}
	}
	return true
}

// wantPlan looks through all lists of steps; the shift has no error.
func wantPlan(s api.Shift, phases []int) ([]int, api.Errno) {
	if e := wantErrors(s, phases); e != api.OK {
		return nil, e
	}
	var found []int
	e := api.ErrNone
	lists(s, phases, nil, func(steps []int) bool {
		if holds(s, phases, steps) {
			found, e = steps, api.OK
		}
		return e == api.OK
	})
	return found, e
}

// ways goes back from the end, and returns a function that says whether a right plan leads there from some phases.
func ways(s api.Shift) func(phases []int) bool {
	name := func(phases []int) string {
		b := make([]byte, len(phases))
		for k, phase := range phases {
			b[k] = byte(phase)
		}
		return string(b)
	}
	leads := map[string]bool{name(wantEnd(s)): true}
	for todo := [][]int{wantEnd(s)}; len(todo) > 0; todo = todo[1:] {
		if !wantFits(s, todo[0]) || !wantSafe(s, todo[0]) {
			continue // one may begin there, but not come there
		}
		for piece, phase := range todo[0] {
			before := slices.Clone(todo[0])
			before[piece]--
			if phase > 0 && !leads[name(before)] {
				leads[name(before)] = true
				todo = append(todo, before)
			}
		}
	}
	return func(phases []int) bool { return leads[name(phases)] }
}

// wantFarPlan is a plan that takes the least step from which a way leads to the end, again and again; the shift has no error.
func wantFarPlan(s api.Shift, phases []int) ([]int, api.Errno) {
	if e := wantErrors(s, phases); e != api.OK {
		return nil, e
	}
	leads := ways(s)
	if !leads(phases) {
		return nil, api.ErrNone
	}
	var steps []int
	phases = slices.Clone(phases)
	for !slices.Equal(phases, wantEnd(s)) {
		for _, piece := range movers(s) {
			next := slices.Clone(phases)
			next[piece]++
			if next[piece] < 3 && leads(next) && wantFits(s, next) && wantSafe(s, next) {
				phases, steps = next, append(steps, piece)
				break
			}
		}
	}
	return steps, api.OK
}

// copied is a shift in memory of its own.
func copied(s api.Shift) api.Shift {
	s.Domains = api.Domains{Disks: append([]int{}, s.Domains.Disks...), Racks: append([]api.Rack{}, s.Domains.Racks...), Houses: append([]int{}, s.Domains.Houses...), Owners: s.Domains.Owners}
	s.Room, s.From, s.To = append([]int{}, s.Room...), append([]int{}, s.From...), append([]int{}, s.To...)
	groups := s.Code.Groups
	s.Code.Groups = nil
	for _, group := range groups {
		s.Code.Groups = append(s.Code.Groups, append([]int{}, group...))
	}
	return s
}

// equal says whether two shifts are the same.
func equal(a, b api.Shift) bool {
	same := slices.Equal[[]int]
	return same(a.Domains.Disks, b.Domains.Disks) && slices.Equal(a.Domains.Racks, b.Domains.Racks) && same(a.Domains.Houses, b.Domains.Houses) && a.Domains.Owners == b.Domains.Owners &&
		a.Code.Data == b.Code.Data && slices.EqualFunc(a.Code.Groups, b.Code.Groups, same) && a.Code.Globals == b.Code.Globals &&
		a.Floor == b.Floor && same(a.Room, b.Room) && same(a.From, b.From) && same(a.To, b.To)
}

// each calls a function with many shifts, and checks that it does not change them.
func each(t *testing.T, seed int64, many int, made func(r *rand.Rand) api.Shift, f func(r *rand.Rand, s api.Shift)) {
	t.Helper()
	r := rand.New(rand.NewSource(seed))
	f(r, example())
	for range many {
		s := made(r)
		before := copied(s)
		f(r, s)
		if !equal(s, before) || t.Failed() {
			t.Fatal("chapter 13: with", before, "the argument is", s)
		}
	}
}

// enough checks that each of some kinds of cases was met often enough.
func enough(t *testing.T, seen map[api.Errno]int, many int, kinds ...api.Errno) {
	t.Helper()
	for _, e := range kinds {
		if seen[e] < many {
			t.Error("too few cases of", e, seen)
		}
	}
}
