package place_test

import (
	"math"
	"math/rand"
	"slices"
	"testing"

	"quietus/api"
	"quietus/code"
)

// someNumbers are numbers of which many are not the index of anything.
var someNumbers = []int{math.MinInt, math.MinInt + 1, -1 << 32, -25, -2, -1, 0, 1, 2, 3, 4, 5, 7, 8, 11, 12, 16, 17, 23, 24, 25, 63, 64, 65, 1 << 32, math.MaxInt - 1, math.MaxInt}

// example is the task of the chapter.
func example() api.Placing {
	return api.Placing{
		Domains: api.Domains{Disks: []int{0, 0, 1, 2}, Racks: []api.Rack{{House: 0}, {House: 0}, {House: 1}}, Houses: []int{0, 1}, Owners: 2},
		Code:    api.Code{Data: 2, Globals: 1},
		Spread:  [4]int{1, 1, 2, 3},
		Floor:   2,
		Room:    []int{1, 1, 1, 1},
		Houses:  0b11,
	}
}

// anyDomains are domains without errors, with so many disks, racks, houses and owners.
func anyDomains(r *rand.Rand, disks, racks, houses, owners int) api.Domains {
	d := api.Domains{Owners: owners}
	for range houses {
		d.Houses = append(d.Houses, r.Intn(owners))
	}
	for range racks {
		d.Racks = append(d.Racks, api.Rack{House: r.Intn(houses), Van: r.Intn(3) == 0})
	}
	for range disks {
		d.Disks = append(d.Disks, r.Intn(racks))
	}
	return d
}

// anyCode is a code without errors, with at most so many pieces.
func anyCode(r *rand.Rand, most int) api.Code {
	c := api.Code{Data: 1 + r.Intn(min(most, api.MaxData))}
	c.Globals = r.Intn(min(most-c.Data, api.MaxGlobals) + 1)
	for _, i := range r.Perm(c.Data) {
		switch k := len(c.Groups); {
		case k > 0 && r.Intn(3) > 0:
			c.Groups[k-1] = append(c.Groups[k-1], i)
			slices.Sort(c.Groups[k-1])
		case c.Data+c.Globals+k < most && r.Intn(3) > 0:
			c.Groups = append(c.Groups, []int{i})
		}
	}
	return c
}

// anyTask is a task without errors on domains, with a code of at most so many pieces.
func anyTask(r *rand.Rand, d api.Domains, most int) api.Placing {
	p := api.Placing{Domains: d, Code: anyCode(r, most), Floor: 1 + r.Intn(api.MaxFloor), Houses: 1<<len(d.Houses) - 1}
	if r.Intn(3) == 0 {
		p.Houses = r.Intn(p.Houses + 1)
	}
	n := code.Pieces(p.Code)
	for level := range p.Spread {
		p.Spread[level] = min(api.MaxPieces, 1+level/2+r.Intn(2+n*(level+1)/3))
		if r.Intn(6) == 0 {
			p.Spread[level] = r.Intn(api.MaxPieces + 1)
		}
	}
	for range d.Disks {
		p.Room = append(p.Room, 1+r.Intn(min(n+1, 4)))
		if r.Intn(6) == 0 {
			p.Room[len(p.Room)-1] = r.Intn(api.MaxPieces + 1)
		}
	}
	return p
}

// small is a task with so few disks and pieces that all layouts can be looked through.
func small(r *rand.Rand) api.Placing {
	d := anyDomains(r, r.Intn(6), 1+r.Intn(4), 1+r.Intn(3), 1+r.Intn(3))
	if len(d.Disks) == 0 {
		d.Disks = append(d.Disks, make([]int, r.Intn(4))...)
	}
	p := anyTask(r, d, 1+r.Intn(6))
	if r.Intn(2) == 0 { // otherwise few layouts have a completion
		for level, n := range p.Spread {
			p.Spread[level] = min(api.MaxPieces, n+level)
		}
		for disk, n := range p.Room {
			p.Room[disk] = min(api.MaxPieces, n+r.Intn(3))
		}
	}
	return p
}

// great is a task with many disks and pieces, or with as many as there may be.
func great(r *rand.Rand) api.Placing {
	d := anyDomains(r, 1+r.Intn(api.MaxDisks), 1+r.Intn(api.MaxRacks), 1+r.Intn(api.MaxHouses), 1+r.Intn(api.MaxOwners))
	if r.Intn(3) == 0 {
		d = anyDomains(r, api.MaxDisks, api.MaxRacks, api.MaxHouses, api.MaxOwners)
	}
	return anyTask(r, d, api.MaxPieces)
}

// anyLayout is a layout of a task in which so many of ten pieces are free, and the others on disks that take them as long as there are such disks.
func anyLayout(r *rand.Rand, p api.Placing, tenths int) []int {
	layout := slices.Repeat([]int{-1}, code.Pieces(p.Code))
	for _, piece := range r.Perm(len(layout)) {
		if r.Intn(10) < tenths {
			continue
		}
		for _, disk := range r.Perm(len(p.Domains.Disks)) {
			layout[piece] = disk
			if wantEnter(p, layout, true) == api.OK {
				break
			}
			layout[piece] = -1
		}
	}
	return layout
}

// spoilt is a layout with other numbers, or with another length, at times.
func spoilt(r *rand.Rand, p api.Placing, layout []int) []int {
	layout = slices.Clone(layout)
	k := r.Intn(len(layout))
	switch r.Intn(8) {
	case 0:
		return slices.Insert(layout, k, 0)
	case 1:
		return slices.Delete(layout, k, len(layout))
	case 2:
		layout[k] = someNumbers[r.Intn(len(someNumbers))]
	case 3, 4:
		layout[k] = layout[r.Intn(len(layout))]
	default:
		for range r.Intn(4) {
			layout[r.Intn(len(layout))] = r.Intn(len(p.Domains.Disks)+1) - r.Intn(20)/19
		}
	}
	return layout
}

// isIn says whether a number is from 0 to many - 1.
func isIn(n, many int) bool { return 0 <= n && n < many }

// wantOf is the domain of a level in which a disk is.
func wantOf(p api.Placing, level, disk int) int {
	rack := p.Domains.Disks[disk]
	house := p.Domains.Racks[rack].House
	return [4]int{disk, rack, house, p.Domains.Houses[house]}[level]
}

// wantSize is the number of domains of a level.
func wantSize(p api.Placing, level int) int {
	return [4]int{len(p.Domains.Disks), len(p.Domains.Racks), len(p.Domains.Houses), p.Domains.Owners}[level]
}

// wantLimit is the limit of a domain of a level.
func wantLimit(p api.Placing, level, n int) int {
	if level == api.LvDisk && p.Room[n] < p.Spread[0] {
		return p.Room[n]
	}
	return p.Spread[level]
}

// wantHeld counts the pieces of a layout in a domain of a level.
func wantHeld(p api.Placing, layout []int, level, n int) int {
	many := 0
	for _, disk := range layout {
		if isIn(disk, len(p.Domains.Disks)) && wantOf(p, level, disk) == n {
			many++
		}
	}
	return many
}

// wantAllowed says whether a disk is allowed.
func wantAllowed(p api.Placing, disk int) bool {
	return p.Houses&(1<<wantOf(p, api.LvHouse, disk)) != 0
}

// wantEnter is the first error of a layout of a task without errors, but for what depends on its completions or on racks that fail.
func wantEnter(p api.Placing, layout []int, free bool) api.Errno {
	if len(layout) != p.Code.Data+len(p.Code.Groups)+p.Code.Globals {
		return api.ErrArg
	}
	for _, disk := range layout {
		if free && disk == -1 {
			continue
		}
		if !isIn(disk, len(p.Domains.Disks)) {
			return api.ErrNone
		}
		if !wantAllowed(p, disk) {
			return api.ErrDuty
		}
	}
	for disk, room := range p.Room {
		if wantHeld(p, layout, api.LvDisk, disk) > room {
			return api.ErrFull
		}
	}
	for level := range 4 {
		for n := range wantSize(p, level) {
			if wantHeld(p, layout, level, n) > p.Spread[level] {
				return api.ErrRange
			}
		}
	}
	return api.OK
}

// wantStands says whether the chunk is recoverable from what is left of a layout, whichever so many racks fail; a rack that fails twice is one that fails.
func wantStands(p api.Placing, layout []int, most int, failed ...int) bool {
	if len(failed) < most {
		for rack := range p.Domains.Racks {
			if !wantStands(p, layout, most, append(failed, rack)...) {
				return false
			}
		}
	}
	left := 0
	for piece, disk := range layout {
		if !slices.Contains(failed, p.Domains.Disks[disk]) {
			left |= 1 << piece
		}
	}
	return code.Recoverable(p.Code, left)
}

// wantRight is the first error of a layout of a task without errors.
func wantRight(p api.Placing, layout []int) api.Errno {
	e := wantEnter(p, layout, false)
	if e == api.OK && !wantStands(p, layout, p.Floor-1) {
		e = api.ErrFloor
	}
	return e
}

// completions calls a function with all completions of a layout, the least one first, until it returns true.
func completions(p api.Placing, layout []int, f func(layout []int) bool) bool {
	k := slices.Index(layout, -1)
	if k < 0 {
		return f(layout)
	}
	for disk := range p.Domains.Disks {
		next := slices.Clone(layout)
		next[k] = disk
		if completions(p, next, f) {
			return true
		}
	}
	return false
}

// wantFirst is the first completion of a layout for which a function returns api.OK, or an error.
func wantFirst(p api.Placing, layout []int, f func(p api.Placing, layout []int) api.Errno, e api.Errno) ([]int, api.Errno) {
	var found []int
	completions(p, layout, func(layout []int) bool {
		if f(p, layout) != api.OK {
			return false
		}
		found, e = layout, api.OK
		return true
	})
	return found, e
}

// wantChoose looks through all completions of a layout of a task without errors.
func wantChoose(p api.Placing, layout []int) ([]int, api.Errno) {
	if e := wantEnter(p, layout, true); e != api.OK {
		return nil, e
	}
	return wantFirst(p, layout, func(p api.Placing, layout []int) api.Errno { return wantEnter(p, layout, false) }, api.ErrLost)
}

// wantFind looks through all completions of a layout of a task without errors.
func wantFind(p api.Placing, layout []int) ([]int, api.Errno) {
	if _, e := wantChoose(p, layout); e != api.OK {
		return nil, e
	}
	if free(layout) > 4 || len(p.Domains.Disks) > 16 {
		return nil, api.ErrLimit
	}
	return wantFirst(p, layout, wantRight, api.ErrFloor)
}

// wantAccept says whether a list of domains is a proof, word for word; the task has no error.
func wantAccept(p api.Placing, layout []int, l []api.Lid) bool {
	if wantEnter(p, layout, true) != api.OK {
		return false
	}
	sum := 0
	for k, x := range l {
		if !isIn(x.Level, 4) || !isIn(x.Domain, wantSize(p, x.Level)) {
			return false
		}
		if k > 0 && (x.Level < l[k-1].Level || x.Level == l[k-1].Level && x.Domain <= l[k-1].Domain) {
			return false
		}
		sum += wantLimit(p, x.Level, x.Domain) - wantHeld(p, layout, x.Level, x.Domain)
	}
	for disk := range p.Domains.Disks {
		in := false
		for _, x := range l {
			in = in || wantOf(p, x.Level, disk) == x.Domain
		}
		if wantAllowed(p, disk) && !in {
			return false
		}
	}
	return sum < free(layout)
}

// free counts the pieces of a layout that are nowhere.
func free(layout []int) int {
	many := 0
	for _, disk := range layout {
		if disk == -1 {
			many++
		}
	}
	return many
}

// wantMost is how many more pieces can be placed: the greatest flow from the owners to the houses, the racks and the disks, piece by piece on ways that may take back what flows.
func wantMost(p api.Placing, layout []int) int {
	type node struct{ level, n int }
	flow := map[node]int{} // into a domain, from the one in which it is
	up := func(x node) node {
		switch x.level {
		case 0:
			return node{1, p.Domains.Disks[x.n]}
		case 1:
			return node{2, p.Domains.Racks[x.n].House}
		case 2:
			return node{3, p.Domains.Houses[x.n]}
		}
		return node{4, 0}
	}
	room := func(x node) int { return wantLimit(p, x.level, x.n) - wantHeld(p, layout, x.level, x.n) - flow[x] }
	var way func(x node, seen map[node]bool) bool
	way = func(x node, seen map[node]bool) bool {
		if x.level == 0 && wantAllowed(p, x.n) {
			return true
		}
		seen[x] = true
		for level := range x.level {
			for n := range wantSize(p, level) {
				if y := (node{level, n}); up(y) == x && !seen[y] && room(y) > 0 && way(y, seen) {
					flow[y]++
					return true
				}
			}
		}
		if y := up(x); x.level < 4 && !seen[y] && flow[x] > 0 && way(y, seen) {
			flow[x]--
			return true
		}
		return false
	}
	most := 0
	for way(node{4, 0}, map[node]bool{}) {
		most++
	}
	return most
}

// copied is a task in memory of its own.
func copied(p api.Placing) api.Placing {
	p.Domains = api.Domains{Disks: append([]int{}, p.Domains.Disks...), Racks: append([]api.Rack{}, p.Domains.Racks...), Houses: append([]int{}, p.Domains.Houses...), Owners: p.Domains.Owners}
	p.Room = append([]int{}, p.Room...)
	groups := p.Code.Groups
	p.Code.Groups = nil
	for _, group := range groups {
		p.Code.Groups = append(p.Code.Groups, append([]int{}, group...))
	}
	return p
}

// equal says whether two tasks are the same.
func equal(a, b api.Placing) bool {
	same := slices.Equal[[]int]
	return same(a.Domains.Disks, b.Domains.Disks) && slices.Equal(a.Domains.Racks, b.Domains.Racks) && same(a.Domains.Houses, b.Domains.Houses) && a.Domains.Owners == b.Domains.Owners &&
		a.Code.Data == b.Code.Data && slices.EqualFunc(a.Code.Groups, b.Code.Groups, same) && a.Code.Globals == b.Code.Globals &&
		a.Spread == b.Spread && a.Floor == b.Floor && same(a.Room, b.Room) && a.Houses == b.Houses
}

// each calls a function with many tasks, and checks that it does not change them.
func each(t *testing.T, seed int64, many int, made func(r *rand.Rand) api.Placing, f func(r *rand.Rand, p api.Placing)) {
	t.Helper()
	r := rand.New(rand.NewSource(seed))
	f(r, example())
	for range many {
		p := made(r)
		before := copied(p)
		f(r, p)
		if !equal(p, before) || t.Failed() {
			t.Fatal("chapter 11: with", before, "the argument is", p)
		}
	}
}

// enough checks that each of some kinds of cases was met often enough.
func enough(t *testing.T, seen map[api.Errno]int, many int, kinds ...api.Errno) {
	t.Helper()
	for _, e := range kinds {
		if seen[e] < many {
			t.Error("too few cases of", e, seen)
		}
	}
}
