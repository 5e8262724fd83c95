package place_test

import (
	"math"
	"math/rand"
	"slices"
	"testing"

	"quietus/api"
	"quietus/code"
	"quietus/place"
)

// TestExamples checks the examples of the chapter.
func TestExamples(t *testing.T) {
	p := example()
	if n, e := place.Room(p); n != 3 || e != api.OK {
		t.Error("P11.3: Room", n, e)
	}
	for _, x := range [][2][]int{{{-1, -1, -1}, {0, 2, 3}}, {{-1, 3, -1}, {0, 3, 2}}} {
		if l, e := place.Choose(p, x[0]); !slices.Equal(l, x[1]) || e != api.OK {
			t.Error("P11.4: Choose of", x[0], l, e)
		}
	}
	one := example()
	one.Houses = 1
	for _, x := range []struct {
		p      api.Placing
		layout []int
		e      api.Errno
	}{{p, []int{0, 2, 3}, api.OK}, {p, []int{0, 1, 3}, api.ErrRange}, {one, []int{0, 2, 3}, api.ErrDuty}} {
		if e := place.Right(x.p, x.layout); e != x.e {
			t.Error("P11.2: Right of", x.layout, e)
		}
	}
	free := []int{-1, -1, -1}
	if l, e := place.Choose(one, free); len(l) > 0 || e != api.ErrLost {
		t.Error("P11.4: Choose with one house", l, e)
	}
	lids, e := place.Refuse(one, free)
	if e != api.OK || len(lids) == 0 || !place.Accept(one, free, lids) || !place.Accept(one, free, []api.Lid{{Level: api.LvHouse, Domain: 0}}) {
		t.Error("P11.5: Refuse with one house", lids, e)
	}
	if l, e := place.Find(p, free); !slices.Equal(l, []int{0, 2, 3}) || e != api.OK {
		t.Error("P11.6: Find", l, e)
	}
	p.Floor = 3
	if l, e := place.Find(p, free); len(l) > 0 || e != api.ErrFloor {
		t.Error("P11.6: Find with Floor 3", l, e)
	}
	if e := place.Right(p, []int{0, 2, 3}); e != api.ErrFloor {
		t.Error("P11.2: Right with Floor 3", e)
	}
}

// bad is a task with an error.
type bad struct {
	p api.Placing
	e api.Errno
}

// badTask is the example after some changes.
func badTask(e api.Errno, changes ...func(p *api.Placing)) bad {
	p := example()
	for _, change := range changes {
		change(&p)
	}
	return bad{p, e}
}

// badTasks are tasks with an error each, and several: those of P11.1 in their order, of which each comes before those behind it.
func badTasks() []bad {
	noCode := func(p *api.Placing) { p.Code.Groups = [][]int{{}} }
	noDomains := func(p *api.Placing) { p.Domains.Houses[1] = 2 }
	manyDomains := func(p *api.Placing) { p.Domains.Owners = 9 }
	floor := func(p *api.Placing) { p.Floor = 5 }
	spread := func(p *api.Placing) { p.Spread[3] = 25 }
	rooms := func(p *api.Placing) { p.Room = p.Room[:3] }
	room := func(p *api.Placing) { p.Room[0] = -1 }
	houses := func(p *api.Placing) { p.Houses = 4 }
	return append(badNumbers(),
		badTask(api.ErrNone, noCode, noDomains, floor, spread, rooms, room, houses),
		badTask(api.ErrArg, noDomains, floor, spread, rooms, room, houses),
		badTask(api.ErrArg, manyDomains, floor, spread, rooms, room, houses),
		badTask(api.ErrArg, noDomains),
		badTask(api.ErrArg, manyDomains),
		badTask(api.ErrRange, floor, rooms, room, houses),
		badTask(api.ErrRange, floor),
		badTask(api.ErrRange, spread, rooms, room, houses),
		badTask(api.ErrRange, spread),
		badTask(api.ErrArg, rooms, room, houses),
		badTask(api.ErrArg, rooms),
		badTask(api.ErrRange, room, houses),
		badTask(api.ErrRange, room),
		badTask(api.ErrArg, houses),
		badTask(api.ErrRange, func(p *api.Placing) { p.Code.Data = 0 }),
		badTask(api.ErrRange, func(p *api.Placing) { p.Code.Globals = 5 }),
		badTask(api.ErrLimit, func(p *api.Placing) { p.Code = api.Code{Data: 16, Groups: make([][]int, 9)} }),
		badTask(api.ErrArg, func(p *api.Placing) { p.Code.Groups = [][]int{{2}} }),
		badTask(api.ErrArg, func(p *api.Placing) { p.Room = append(p.Room, 1) }),
		badTask(api.ErrArg, func(p *api.Placing) { p.Room = nil }),
		badTask(api.ErrArg, func(p *api.Placing) { *p = api.Placing{Code: p.Code, Floor: 1, Houses: 1} }),
		badTask(api.ErrRange, func(p *api.Placing) { *p = api.Placing{} }),
		badTask(api.ErrRange, func(p *api.Placing) { *p = api.Placing{Code: p.Code} }),
	)
}

// badNumbers are tasks with one number that is out of its bounds.
func badNumbers() []bad {
	l := []bad{badTask(api.ErrArg, func(p *api.Placing) { p.Houses = 1 << 62 })}
	for _, n := range someNumbers {
		if n < 1 || n > 4 {
			l = append(l, badTask(api.ErrRange, func(p *api.Placing) { p.Floor = n }))
		}
		for k := 0; k < 4 && (n < 0 || n > 24); k++ {
			l = append(l, badTask(api.ErrRange, func(p *api.Placing) { p.Spread[k] = n }))
			l = append(l, badTask(api.ErrRange, func(p *api.Placing) { p.Room[k] = n }))
		}
		if n < 0 || n > 3 {
			l = append(l, badTask(api.ErrArg, func(p *api.Placing) { p.Houses = n }))
		}
	}
	return l
}

// TestBadTasks calls all functions with tasks that have an error.
func TestBadTasks(t *testing.T) {
	for k, x := range badTasks() {
		if e := place.Check(x.p); e != x.e {
			t.Fatal("P11.1: Check of", k, x.p, e, "and not", x.e)
		}
		for _, layout := range [][]int{nil, {0, 2, 3}, {-1, -1, -1}, {0, 0, 9}} {
			n, e0 := place.Room(x.p)
			e1 := place.Right(x.p, layout)
			chosen, e2 := place.Choose(x.p, layout)
			lids, e3 := place.Refuse(x.p, layout)
			found, e4 := place.Find(x.p, layout)
			for _, e := range []api.Errno{e0, e1, e2, e3, e4} {
				if e != x.e {
					t.Error("P11.1: errors with", x.p, layout, e0, e1, e2, e3, e4, "and not", x.e)
				}
			}
			if n != 0 || len(chosen)+len(lids)+len(found) != 0 {
				t.Error("chapter 11: results with an error:", x.p, n, chosen, lids, found)
			}
			if place.Accept(x.p, layout, nil) || place.Accept(x.p, layout, []api.Lid{{Level: 3, Domain: 0}, {Level: 3, Domain: 1}}) {
				t.Error("P11.5: Accept with", x.p, layout)
			}
		}
	}
}

// TestBounds checks that the greatest and the least numbers of a task are none with an error.
func TestBounds(t *testing.T) {
	good := func(name string, p api.Placing) {
		t.Helper()
		if e := place.Check(p); e != api.OK {
			t.Error("P11.1: Check:", name, e)
		}
	}
	p := example()
	for floor := 1; floor <= 4; floor++ {
		p.Floor = floor
		good("Floor", p)
	}
	for _, n := range []int{0, 1, 24} {
		p = example()
		p.Spread = [4]int{n, n, n, n}
		p.Room = []int{n, n, n, n}
		good("Spread and Room", p)
	}
	for houses := range 4 {
		p = example()
		p.Houses = houses
		good("Houses", p)
	}
	r := rand.New(rand.NewSource(1))
	p = anyTask(r, anyDomains(r, api.MaxDisks, api.MaxRacks, api.MaxHouses, api.MaxOwners), api.MaxPieces)
	p.Houses = 1<<12 - 1
	good("greatest domains", p)
	good("no domains", api.Placing{Code: api.Code{Data: 1}, Floor: 1})
	each(t, 2, 200, great, func(r *rand.Rand, p api.Placing) { good("any", p) })
}

// TestRight compares Right with the reference.
func TestRight(t *testing.T) {
	seen := map[api.Errno]int{}
	try := func(r *rand.Rand, p api.Placing, layout []int) {
		before := slices.Clone(layout)
		want := wantRight(p, layout)
		if e := place.Right(p, layout); e != want || !slices.Equal(layout, before) {
			t.Fatal("P11.2: Right of", p, before, e, "and not", want)
		}
		seen[want]++
	}
	each(t, 3, 6000, small, func(r *rand.Rand, p api.Placing) {
		layout := anyLayout(r, p, 0)
		try(r, p, layout)
		try(r, p, spoilt(r, p, layout))
	})
	each(t, 4, 60, great, func(r *rand.Rand, p api.Placing) {
		layout := anyLayout(r, p, 0)
		try(r, p, layout)
		try(r, p, spoilt(r, p, layout))
	})
	enough(t, seen, 100, api.OK, api.ErrArg, api.ErrNone, api.ErrDuty, api.ErrFull, api.ErrRange, api.ErrFloor)
}

// TestAllLayouts compares Right with the reference for all layouts of a task, also with numbers that are not disks.
func TestAllLayouts(t *testing.T) {
	each(t, 5, 60, func(r *rand.Rand) api.Placing {
		p := small(r)
		p.Code = anyCode(r, 4)
		return p
	}, func(r *rand.Rand, p api.Placing) {
		n := code.Pieces(p.Code)
		layout := slices.Repeat([]int{-1}, n)
		for k := 0; k < n; {
			want := wantRight(p, layout)
			if e := place.Right(p, layout); e != want {
				t.Fatal("P11.2: Right of", p, layout, e, "and not", want)
			}
			for k = 0; k < n; k++ {
				if layout[k]++; layout[k] <= len(p.Domains.Disks) {
					break
				}
				layout[k] = -1
			}
		}
	})
}

// wide is a task of a code whose pieces are each on a rack of its own, all in one house.
func wide(c api.Code, floor int) (api.Placing, []int) {
	p := api.Placing{Domains: api.Domains{Houses: []int{0}, Owners: 1}, Code: c, Spread: [4]int{24, 24, 24, 24}, Floor: floor, Houses: 1}
	var layout []int
	for k := range code.Pieces(c) {
		p.Domains.Racks = append(p.Domains.Racks, api.Rack{})
		p.Domains.Disks = append(p.Domains.Disks, k)
		p.Room = append(p.Room, 1)
		layout = append(layout, k)
	}
	return p, layout
}

// TestFloors checks how many racks may fail: where each has one piece, one less than the distance of the code.
func TestFloors(t *testing.T) {
	r := rand.New(rand.NewSource(6))
	for k := range 60 {
		c := anyCode(r, api.MaxPieces)
		if k < 4 {
			c = []api.Code{{Data: 1}, {Data: 16, Globals: 4}, {Data: 16, Groups: [][]int{{0, 1, 2, 3}, {4, 5, 6, 7}, {8, 9, 10, 11}, {12, 13, 14, 15}}, Globals: 4}, {Data: 1, Globals: 4}}[k]
		}
		distance, _ := code.Distance(c)
		for floor := 1; floor <= 4; floor++ {
			p, layout := wide(c, floor)
			want := api.OK
			if floor-1 >= distance {
				want = api.ErrFloor
			}
			if e := place.Right(p, layout); e != want {
				t.Error("P11.2: Right of", c, "with the distance", distance, "and Floor", floor, e)
			}
			if l, e := place.Find(p, layout); len(p.Room) <= 16 && (e != want || e == api.OK && !slices.Equal(l, layout)) {
				t.Error("P11.6: Find of", c, "with the distance", distance, "and Floor", floor, e)
			}
		}
	}
}

// TestFewRacks lets all racks fail that there are: with as many racks as Floor, one is left; with fewer, none.
func TestFewRacks(t *testing.T) {
	for racks := 1; racks <= 5; racks++ {
		for floor := 1; floor <= 4; floor++ {
			p := api.Placing{Domains: api.Domains{Houses: []int{0}, Owners: 1}, Code: api.Code{Data: 1, Globals: 4}, Spread: [4]int{24, 24, 24, 24}, Floor: floor, Houses: 1}
			for k := range racks {
				p.Domains.Racks = append(p.Domains.Racks, api.Rack{})
				p.Domains.Disks = append(p.Domains.Disks, k)
				p.Room = append(p.Room, 5)
			}
			var layout []int
			for k := range 5 {
				layout = append(layout, k%racks)
			}
			want := api.OK
			if racks < floor {
				want = api.ErrFloor
			}
			if e := place.Right(p, layout); e != want {
				t.Error("P11.2: Right with", racks, "racks and Floor", floor, e)
			}
			layout[4] = -1
			if _, e := place.Find(p, layout); e != want {
				t.Error("P11.6: Find with", racks, "racks and Floor", floor, e)
			}
		}
	}
}

// TestRoom compares Room with the greatest flow.
func TestRoom(t *testing.T) {
	try := func(r *rand.Rand, p api.Placing) {
		if n, e := place.Room(p); n != wantMost(p, nil) || e != api.OK {
			t.Fatal("P11.3: Room of", p, n, e, "and not", wantMost(p, nil))
		}
	}
	each(t, 7, 3000, small, try)
	each(t, 8, 100, great, try)
	each(t, 9, 100, func(r *rand.Rand) api.Placing {
		p := great(r)
		for level := range p.Spread {
			p.Spread[level] = api.MaxPieces
		}
		for disk := range p.Room {
			p.Room[disk] = r.Intn(api.MaxPieces + 1)
		}
		return p
	}, try)
	p := example()
	p.Houses = 0
	if n, e := place.Room(p); n != 0 || e != api.OK {
		t.Error("P11.3: Room without houses", n, e)
	}
}

// TestGreatestRoom checks the greatest room of all: all owners have as many pieces as there may be.
func TestGreatestRoom(t *testing.T) {
	p := api.Placing{Domains: api.Domains{Owners: 8}, Code: api.Code{Data: 1}, Spread: [4]int{24, 24, 24, 24}, Floor: 1, Houses: 1<<12 - 1}
	for k := range 12 {
		p.Domains.Houses = append(p.Domains.Houses, k%8)
	}
	for k := range 24 {
		p.Domains.Racks = append(p.Domains.Racks, api.Rack{House: k % 12})
	}
	for k := range 64 {
		p.Domains.Disks = append(p.Domains.Disks, k%24)
		p.Room = append(p.Room, 24)
	}
	for level, want := range []int{64, 24, 12, 8} {
		one := p
		one.Spread[level] = 1
		if n, e := place.Room(one); n != want || e != api.OK {
			t.Error("P11.3: Room with one piece in each domain of the level", level, n, e)
		}
	}
	if n, e := place.Room(p); n != 8*24 || e != api.OK {
		t.Error("P11.3: the greatest Room", n, e)
	}
}

// TestChoose compares Choose with all completions.
func TestChoose(t *testing.T) {
	seen := map[api.Errno]int{}
	try := func(p api.Placing, layout []int) {
		before := slices.Clone(layout)
		want, wantE := wantChoose(p, layout)
		got, e := place.Choose(p, layout)
		if !slices.Equal(got, want) || e != wantE || !slices.Equal(layout, before) {
			t.Fatal("P11.4: Choose of", p, before, got, e, "and not", want, wantE)
		}
		seen[wantE]++
	}
	each(t, 10, 3000, small, func(r *rand.Rand, p api.Placing) {
		layout := anyLayout(r, p, 1+r.Intn(10))
		try(p, layout)
		try(p, spoilt(r, p, layout))
	})
	enough(t, seen, 50, api.OK, api.ErrArg, api.ErrNone, api.ErrDuty, api.ErrFull, api.ErrRange, api.ErrLost)
}

// TestChooseOfGreatTasks checks piece by piece that no lesser disk leaves room for the other free pieces.
func TestChooseOfGreatTasks(t *testing.T) {
	seen := map[api.Errno]int{}
	each(t, 11, 120, great, func(r *rand.Rand, p api.Placing) {
		layout := anyLayout(r, p, 2+r.Intn(9))
		got, e := place.Choose(p, layout)
		seen[e]++
		if wantMost(p, layout) < free(layout) {
			if len(got) > 0 || e != api.ErrLost {
				t.Fatal("P11.4: Choose of", p, layout, got, e, "and not ErrLost")
			}
			return
		}
		if wantEnter(p, got, false) != api.OK || e != api.OK {
			t.Fatal("P11.4: Choose of", p, layout, got, e)
		}
		next := slices.Clone(layout)
		for piece, disk := range layout {
			if disk != -1 {
				if got[piece] != disk {
					t.Fatal("P11.4: Choose of", p, layout, "moves a piece:", got)
				}
				continue
			}
			for lesser := range got[piece] {
				next[piece] = lesser
				if wantEnter(p, next, true) == api.OK && wantMost(p, next) >= free(next) {
					t.Fatal("P11.4: Choose of", p, layout, got, "is not the least one", next)
				}
			}
			next[piece] = got[piece]
		}
	})
	enough(t, seen, 20, api.OK, api.ErrLost)
}

// TestFloorDoesNotMatter checks that Room, Choose, Refuse and Accept do not depend on Floor.
func TestFloorDoesNotMatter(t *testing.T) {
	each(t, 12, 300, small, func(r *rand.Rand, p api.Placing) {
		layout := anyLayout(r, p, 8)
		q := p
		q.Floor = 1 + p.Floor%api.MaxFloor
		a, e := place.Choose(p, layout)
		b, f := place.Choose(q, layout)
		x, _ := place.Refuse(p, layout)
		y, _ := place.Refuse(q, layout)
		m, _ := place.Room(p)
		n, _ := place.Room(q)
		if !slices.Equal(a, b) || e != f || !slices.Equal(x, y) || m != n || place.Accept(p, layout, x) != place.Accept(q, layout, x) {
			t.Fatal("P11.4: Floor matters:", p, q.Floor, layout)
		}
	})
}

// TestOrderOfErrors gives layouts with several errors: those of a piece come before those of the next one, and each of the other errors before the next one.
func TestOrderOfErrors(t *testing.T) {
	p := example()
	p.Houses = 1
	p.Code.Globals = 3
	p.Spread = [4]int{2, 2, 3, 3}
	p.Room = []int{1, 3, 3, 3}
	for _, x := range []struct {
		layout []int
		right  api.Errno
		choose api.Errno
	}{
		{nil, api.ErrArg, api.ErrArg},
		{[]int{0, 0, 0, 0}, api.ErrArg, api.ErrArg},
		{[]int{-2, 3, 0, 0, 0, 0}, api.ErrArg, api.ErrArg},
		{[]int{0, 0, 0, -2, 3}, api.ErrNone, api.ErrNone},
		{[]int{0, 0, 0, 4, 3}, api.ErrNone, api.ErrNone},
		{[]int{0, 0, 0, 3, -2}, api.ErrDuty, api.ErrDuty},
		{[]int{0, 0, 0, 3, math.MinInt}, api.ErrDuty, api.ErrDuty},
		{[]int{0, 0, 0, math.MaxInt, 3}, api.ErrNone, api.ErrNone},
		{[]int{-1, 3, 0, 0, 0}, api.ErrNone, api.ErrDuty},
		{[]int{3, -1, 0, 0, 0}, api.ErrDuty, api.ErrDuty},
		{[]int{2, 2, 2, 0, 0}, api.ErrFull, api.ErrFull},    // the disk 2 has more than Spread, the disk 0 more than its room
		{[]int{2, 2, 2, 0, 1}, api.ErrRange, api.ErrRange},  // the disk 2 has more than Spread, but not more than its room
		{[]int{0, 1, 1, -1, -1}, api.ErrNone, api.ErrRange}, // a rack has more than Spread
		{[]int{0, 1, 2, 2, -1}, api.ErrNone, api.ErrRange},  // a house has
		{[]int{0, 1, 2, -1, -1}, api.ErrNone, api.ErrLost},
	} {
		if e := place.Right(p, x.layout); e != x.right {
			t.Error("P11.2: Right of", x.layout, e, "and not", x.right)
		}
		l, e := place.Choose(p, x.layout)
		if len(l) > 0 || e != x.choose {
			t.Error("P11.4: Choose of", x.layout, l, e, "and not", x.choose)
		}
		l, e = place.Find(p, x.layout)
		if len(l) > 0 || e != x.choose {
			t.Error("P11.6: Find of", x.layout, l, e, "and not", x.choose)
		}
		want := x.choose
		if want == api.ErrLost {
			want = api.OK
		}
		lids, e := place.Refuse(p, x.layout)
		if len(lids) > 0 != (want == api.OK) || e != want {
			t.Error("P11.5: Refuse of", x.layout, lids, e, "and not", want)
		}
	}
	p.Houses = 3
	p.Spread = [4]int{2, 2, 5, 4}
	p.Domains.Houses[1] = 0 // an owner has more than Spread
	if e := place.Right(p, []int{0, 2, 2, 3, 3}); e != api.ErrRange {
		t.Error("P11.2: five pieces of an owner", e)
	}
}
