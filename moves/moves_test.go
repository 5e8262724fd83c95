package moves_test

import (
	"math"
	"math/rand"
	"slices"
	"testing"

	"quietus/api"
	"quietus/code"
	"quietus/moves"
)

// TestExamples checks the examples of the chapter.
func TestExamples(t *testing.T) {
	s := example()
	for _, phases := range [][]int{{0, 0, 0}, {2, 0, 2}} {
		if !moves.Safe(s, phases) {
			t.Error("P13.3: Safe of", phases)
		}
	}
	if !moves.Fits(s, []int{1, 0, 0}) || moves.Fits(s, []int{0, 0, 1}) {
		t.Error("P13.4: Fits of 1 0 0 or of 0 0 1")
	}
	none, floor := example(), example()
	none.Room[3] = 0
	floor.Floor = 3
	for _, x := range []struct {
		s      api.Shift
		phases []int
		want   []int
		e      api.Errno
	}{
		{s, []int{0, 0, 0}, []int{0, 0, 2, 2}, api.OK},
		{s, []int{1, 0, 0}, []int{0, 2, 2}, api.OK},
		{none, []int{0, 0, 0}, nil, api.ErrNone},
		{floor, []int{0, 0, 0}, nil, api.ErrFloor},
		{s, []int{2, 0, 2}, nil, api.OK},
		{s, []int{0, 1, 0}, nil, api.ErrArg},
	} {
		if got, e := moves.Plan(x.s, x.phases); !slices.Equal(got, x.want) || e != x.e {
			t.Error("P13.5: Plan of", x.s, x.phases, got, e, "and not", x.want, x.e)
		}
	}
}

// checkError calls all functions with a shift, and checks that each tells the error, and nothing else; api.OK stands for none.
func checkError(t *testing.T, name string, s api.Shift, want api.Errno) {
	t.Helper()
	if e := moves.Check(s); e != want {
		t.Error("P13.1: Check of", name, e, "and not", want)
	}
	for _, phases := range [][]int{make([]int, len(s.From)), make([]int, len(s.To)), nil, {0, 0, 0}} {
		steps, e := moves.Plan(s, phases)
		if want == api.OK {
			if right := wantPhases(s, phases); right != (e != api.ErrArg) {
				t.Error("P13.5: Plan with", name, phases, e)
			}
			continue
		}
		if e != want || len(steps) > 0 || moves.Left(s, phases, nil) != 0 || moves.Safe(s, phases) || moves.Fits(s, phases) {
			t.Error("P13.1: results with", name, phases, steps, e, "and not", want)
		}
	}
}

// widened changes an example so that it has so many pieces, of which so many move, each on its disk.
func widened(s *api.Shift, pieces, moved int) {
	s.Code = api.Code{Data: min(pieces, api.MaxData)}
	for k := range pieces - s.Code.Data {
		s.Code.Groups = append(s.Code.Groups, []int{k})
	}
	s.From, s.To = nil, nil
	for piece := range pieces {
		s.From, s.To = append(s.From, piece%2), append(s.To, piece%2)
		if piece < moved {
			s.To[piece] = 2
		}
	}
}

// TestCheck checks each error, alone and together with later ones, and shifts that are just right.
func TestCheck(t *testing.T) {
	for _, x := range []struct {
		name   string
		change func(s *api.Shift)
		want   api.Errno
	}{
		{"the example", func(s *api.Shift) {}, api.OK},
		{"a code without data", func(s *api.Shift) { s.Code.Data = 0 }, code.Check(api.Code{Globals: 1})},
		{"too many globals", func(s *api.Shift) { s.Code.Globals = 5 }, code.Check(api.Code{Data: 2, Globals: 5})},
		{"a wrong group", func(s *api.Shift) { s.Code.Groups = [][]int{{1, 0}} }, code.Check(api.Code{Data: 2, Groups: [][]int{{1, 0}}, Globals: 1})},
		{"a wrong code, and all else wrong", func(s *api.Shift) { *s = api.Shift{Code: api.Code{Data: 17}, Floor: -1} }, code.Check(api.Code{Data: 17})},
		{"a wrong rack", func(s *api.Shift) { s.Domains.Disks[4] = 5 }, api.ErrArg},
		{"too many owners", func(s *api.Shift) { s.Domains.Owners = 9 }, api.ErrArg},
		{"too many disks", func(s *api.Shift) { s.Domains.Disks, s.Room = make([]int, 65), make([]int, 65) }, api.ErrArg},
		{"as many disks as may be", func(s *api.Shift) { s.Domains.Disks, s.Room = make([]int, 64), make([]int, 64) }, api.OK},
		{"wrong domains, and a wrong Floor", func(s *api.Shift) { s.Domains.Houses[0], s.Floor = 1, 0 }, api.ErrArg},
		{"Floor 0", func(s *api.Shift) { s.Floor = 0 }, api.ErrRange},
		{"Floor 1", func(s *api.Shift) { s.Floor = 1 }, api.OK},
		{"Floor 4", func(s *api.Shift) { s.Floor = 4 }, api.OK},
		{"Floor 5", func(s *api.Shift) { s.Floor = 5 }, api.ErrRange},
		{"the least number as Floor", func(s *api.Shift) { s.Floor = math.MinInt }, api.ErrRange},
		{"the greatest number as Floor", func(s *api.Shift) { s.Floor = math.MaxInt }, api.ErrRange},
		{"a wrong Floor, and a room too few", func(s *api.Shift) { s.Floor, s.Room = 5, s.Room[:4] }, api.ErrRange},
		{"a wrong Floor, and wrong layouts", func(s *api.Shift) { s.Floor, s.From, s.To = 0, nil, nil }, api.ErrRange},
		{"a room too few", func(s *api.Shift) { s.Room = s.Room[:4] }, api.ErrArg},
		{"no rooms", func(s *api.Shift) { s.Room = nil }, api.ErrArg},
		{"a room too many", func(s *api.Shift) { s.Room = append(s.Room, 0) }, api.ErrArg},
		{"a negative room", func(s *api.Shift) { s.Room[2] = -1 }, api.ErrArg},
		{"the least number as a room", func(s *api.Shift) { s.Room[4] = math.MinInt }, api.ErrArg},
		{"the greatest room", func(s *api.Shift) { s.Room[4] = 24 }, api.OK},
		{"too great a room", func(s *api.Shift) { s.Room[4] = 25 }, api.ErrArg},
		{"the greatest number as a room", func(s *api.Shift) { s.Room[0] = math.MaxInt }, api.ErrArg},
		{"too few places in From", func(s *api.Shift) { s.From = s.From[:2] }, api.ErrArg},
		{"too many places in From", func(s *api.Shift) { s.From = append(s.From, 3) }, api.ErrArg},
		{"no From", func(s *api.Shift) { s.From = nil }, api.ErrArg},
		{"a piece nowhere in From", func(s *api.Shift) { s.From[1] = -1 }, api.ErrArg},
		{"a piece nowhere in both", func(s *api.Shift) { s.From[1], s.To[1] = -1, -1 }, api.ErrArg},
		{"no such disk in From", func(s *api.Shift) { s.From[2] = 5 }, api.ErrArg},
		{"the last disk in From", func(s *api.Shift) { s.From[2] = 4 }, api.OK},
		{"too few places in To", func(s *api.Shift) { s.To = s.To[:2] }, api.ErrArg},
		{"too many places in To", func(s *api.Shift) { s.To = append(s.To, 3) }, api.ErrArg},
		{"too many places in both", func(s *api.Shift) { s.From, s.To = append(s.From, 3), append(s.To, 3) }, api.ErrArg},
		{"too few places in both", func(s *api.Shift) { s.From, s.To = s.From[:2], s.To[:2] }, api.ErrArg},
		{"no To", func(s *api.Shift) { s.To = nil }, api.ErrArg},
		{"a piece nowhere in To", func(s *api.Shift) { s.To[0] = -1 }, api.ErrArg},
		{"the least number as a disk in To", func(s *api.Shift) { s.To[0] = math.MinInt }, api.ErrArg},
		{"no such disk in To", func(s *api.Shift) { s.To[2] = 5 }, api.ErrArg},
		{"the last disk in To", func(s *api.Shift) { s.To[2] = 4 }, api.OK},
		{"no disks", func(s *api.Shift) { s.Domains.Disks, s.Room = nil, nil }, api.ErrArg},
		{"no piece that moves", func(s *api.Shift) { s.To = s.From }, api.OK},
		{"eight pieces that move", func(s *api.Shift) { widened(s, 24, 8) }, api.OK},
		{"nine pieces that move", func(s *api.Shift) { widened(s, 24, 9) }, api.ErrLimit},
		{"all of eight pieces move", func(s *api.Shift) { widened(s, 8, 8) }, api.OK},
		{"all of nine pieces move", func(s *api.Shift) { widened(s, 9, 9) }, api.ErrLimit},
		{"nine pieces that move, and a wrong room", func(s *api.Shift) { widened(s, 9, 9); s.Room[0] = -1 }, api.ErrArg},
		{"nine pieces that move, and a wrong place", func(s *api.Shift) { widened(s, 10, 9); s.To[9] = 5 }, api.ErrArg},
		{"nine pieces that move, and a wrong Floor", func(s *api.Shift) { widened(s, 9, 9); s.Floor = 0 }, api.ErrRange},
	} {
		s := example()
		x.change(&s)
		checkError(t, x.name, s, x.want)
	}
	if code.Check(api.Code{Data: 17}) == api.OK || code.Check(api.Code{Data: 2, Globals: 5}) == api.OK {
		t.Error("P13.1: codes that are not wrong")
	}
}

// TestPhases checks phases that are not right: nothing is left, safe or fits, and Plan returns ErrArg.
func TestPhases(t *testing.T) {
	right, wrong := 0, 0
	each(t, 1, 3000, small, func(r *rand.Rand, s api.Shift) {
		phases := anyPhases(r, s, 3)
		if r.Intn(2) == 0 {
			phases = spoilt(r, phases)
		}
		if wantPhases(s, phases) {
			right++
			return
		}
		wrong++
		steps, e := moves.Plan(s, phases)
		if moves.Left(s, phases, nil) != 0 || moves.Safe(s, phases) || moves.Fits(s, phases) || len(steps) > 0 || e != api.ErrArg {
			t.Fatal("P13.1: with wrong phases", s, phases, steps, e)
		}
	})
	if right < 500 || wrong < 500 {
		t.Error("too few cases:", right, wrong)
	}
	s := example()
	for _, x := range []struct {
		phases []int
		right  bool
	}{
		{[]int{0, 0, 0}, true}, {[]int{2, 0, 1}, true}, {[]int{1, 0, 2}, true}, {[]int{3, 0, 0}, false}, {[]int{-1, 0, 0}, false}, {[]int{0, 0, 256}, false}, {[]int{0, 0, 257}, false}, {[]int{0, 0, -255}, false},
		{[]int{0, 2, 0}, false}, {[]int{0, 1, 0}, false}, {[]int{0, 0}, false}, {[]int{0, 0, 0, 0}, false}, {nil, false}, {make([]int, 25), false}, {make([]int, 100), false},
	} {
		if left := moves.Left(s, x.phases, nil); (left != 0) != x.right {
			t.Error("P13.1: Left of", x.phases, left)
		}
		if _, e := moves.Plan(s, x.phases); (e == api.ErrArg) == x.right {
			t.Error("P13.1: Plan of", x.phases, e)
		}
	}
}

// TestLeft compares Left with its definition, for racks some of which are none, or are named twice.
func TestLeft(t *testing.T) {
	kinds := [3]int{}
	try := func(r *rand.Rand, s api.Shift) {
		phases := anyPhases(r, s, 3)
		var racks []int
		for range r.Intn(6) {
			racks = append(racks, r.Intn(len(s.Domains.Racks)))
			if r.Intn(4) == 0 {
				racks = append(racks, someNumbers[r.Intn(len(someNumbers))])
			}
		}
		for range 3 {
			before := slices.Clone(racks)
			want, got := wantLeft(s, phases, racks), moves.Left(s, phases, racks)
			if got != want || !slices.Equal(racks, before) {
				t.Fatal("P13.2: Left of", s, phases, before, got, "and not", want)
			}
			switch want {
			case 0:
				kinds[0]++
			case 1<<len(phases) - 1:
				kinds[1]++
			default:
				kinds[2]++
			}
			racks = append(racks, racks...)
			r.Shuffle(len(racks), func(a, b int) { racks[a], racks[b] = racks[b], racks[a] })
		}
	}
	each(t, 2, 2000, small, try)
	each(t, 3, 1000, great, try)
	if slices.Min(kinds[:]) < 300 {
		t.Error("too few cases:", kinds)
	}
	s := example()
	for _, x := range []struct {
		phases, racks []int
		want          int
	}{
		{[]int{0, 0, 0}, nil, 7}, {[]int{0, 0, 0}, []int{0}, 6}, {[]int{1, 0, 0}, []int{0}, 7}, {[]int{1, 0, 0}, []int{3, 0}, 6}, {[]int{1, 0, 0}, []int{3}, 7}, {[]int{2, 0, 0}, []int{0}, 7}, {[]int{2, 0, 0}, []int{3}, 6},
		{[]int{2, 0, 2}, []int{0, 3}, 2}, {[]int{0, 0, 0}, []int{-1, 5, 99, math.MinInt}, 7}, {[]int{0, 0, 0}, []int{1, 1, 1}, 5}, {[]int{0, 0, 0}, []int{0, 1, 2, 3, 4}, 0},
	} {
		if got := moves.Left(s, x.phases, x.racks); got != x.want {
			t.Error("P13.2: Left of", x.phases, x.racks, got, "and not", x.want)
		}
	}
}

// TestSafeAndFits compares Safe and Fits with their definitions.
func TestSafeAndFits(t *testing.T) {
	safe, fits := map[bool]int{}, map[bool]int{}
	try := func(r *rand.Rand, s api.Shift) {
		for _, tenths := range []int{0, 4, 8} {
			phases := anyPhases(r, s, tenths)
			before := slices.Clone(phases)
			want, got := wantSafe(s, phases), moves.Safe(s, phases)
			if got != want || !slices.Equal(phases, before) {
				t.Fatal("P13.3: Safe of", s, before, got)
			}
			safe[want]++
			want, got = wantFits(s, phases), moves.Fits(s, phases)
			if got != want || !slices.Equal(phases, before) {
				t.Fatal("P13.4: Fits of", s, before, got)
			}
			fits[want]++
		}
	}
	each(t, 4, 2000, small, try)
	each(t, 5, 1000, middle, try)
	each(t, 6, 200, great, try)
	if min(safe[true], safe[false], fits[true], fits[false]) < 1000 {
		t.Error("too few cases:", safe, fits)
	}
}

// TestFloors checks the Floor for a code that survives the loss of any three pieces, piece by piece on racks of their own.
func TestFloors(t *testing.T) {
	for lost := range 4 { // pieces on one rack at the end
		s := api.Shift{
			Domains: api.Domains{Disks: []int{0, 1, 2, 3, 4, 5, 6, 7}, Racks: make([]api.Rack, 8), Houses: []int{0}, Owners: 1},
			Code:    api.Code{Data: 4, Globals: 3},
			Room:    []int{0, 0, 0, 0, 0, 0, 0, 4},
			From:    []int{0, 1, 2, 3, 4, 5, 6},
		}
		s.To = slices.Clone(s.From)
		for piece := range lost {
			s.To[piece] = 7
		}
		for s.Floor = 1; s.Floor <= 4; s.Floor++ {
			want := s.Floor == 1 || lost <= 1 || lost+s.Floor-2 <= 3
			if got := moves.Safe(s, wantEnd(s)); got != want || !moves.Safe(s, make([]int, 7)) {
				t.Error("P13.3: with Floor", s.Floor, "and", lost, "pieces on a rack:", got, "and not", want)
			}
			steps, e := moves.Plan(s, make([]int, 7))
			var all []int
			for piece := range lost {
				all = append(all, piece, piece)
			}
			if want && (!slices.Equal(steps, all) || e != api.OK) || !want && e != api.ErrFloor {
				t.Error("P13.5: with Floor", s.Floor, "and", lost, "pieces on a rack:", steps, e)
			}
		}
	}
}

// TestPlan compares Plan with all lists of steps, or with ways that were sought from the end.
func TestPlan(t *testing.T) {
	seen := map[api.Errno]int{}
	later := 0 // plans that are not the list of two steps of each piece
	try := func(want func(s api.Shift, phases []int) ([]int, api.Errno)) func(r *rand.Rand, s api.Shift) {
		return func(r *rand.Rand, s api.Shift) {
			phases := anyPhases(r, s, 2+r.Intn(12))
			before := slices.Clone(phases)
			steps, e := want(s, phases)
			got, f := moves.Plan(s, phases)
			if !slices.Equal(got, steps) || e != f || !slices.Equal(phases, before) {
				t.Fatal("P13.5: Plan of", s, before, got, f, "and not", steps, e)
			}
			seen[e]++
			if !slices.IsSorted(got) {
				later++
			}
		}
	}
	each(t, 7, 6000, small, try(wantPlan))
	each(t, 8, 1500, middle, try(wantFarPlan))
	enough(t, seen, 200, api.OK, api.ErrNone, api.ErrFull, api.ErrFloor)
	if later < 100 {
		t.Error("too few cases:", later)
	}
}

// TestReferences compares the two references.
func TestReferences(t *testing.T) {
	each(t, 9, 500, small, func(r *rand.Rand, s api.Shift) {
		phases := anyPhases(r, s, 7)
		a, e := wantPlan(s, phases)
		b, f := wantFarPlan(s, phases)
		if !slices.Equal(a, b) || e != f {
			t.Fatal("references of P13.5:", s, phases, a, e, b, f)
		}
	})
}

// TestGreatPlans checks plans of up to eight pieces on many disks.
func TestGreatPlans(t *testing.T) {
	seen := map[api.Errno]int{}
	each(t, 10, 400, great, func(r *rand.Rand, s api.Shift) {
		phases := make([]int, len(s.From))
		steps, e := moves.Plan(s, phases)
		seen[e]++
		if e == api.OK && (!holds(s, phases, steps) || len(steps) != 2*len(movers(s))) {
			t.Fatal("P13.5: Plan of", s, phases, steps)
		}
		if want := wantErrors(s, phases); want != api.OK && e != want || want == api.OK && e != api.OK && e != api.ErrNone {
			t.Fatal("P13.5: Plan of", s, phases, e, want)
		}
	})
	enough(t, seen, 50, api.OK, api.ErrFloor)
}

// TestErrorsOfPlan checks which error of several ones Plan returns.
func TestErrorsOfPlan(t *testing.T) {
	change := func(f func(s *api.Shift)) api.Shift {
		s := example()
		f(&s)
		return s
	}
	for _, x := range []struct {
		name   string
		s      api.Shift
		phases []int
		want   api.Errno
	}{
		{"a wrong shift, and wrong phases", change(func(s *api.Shift) { s.Floor = 0 }), []int{0, 1}, api.ErrRange},
		{"wrong phases, no room, and not safe", change(func(s *api.Shift) { s.Floor = 4 }), []int{0, 1, 1}, api.ErrArg},
		{"no room, and not safe", change(func(s *api.Shift) { s.Floor = 4 }), []int{0, 0, 1}, api.ErrFull},
		{"no room, but gone on it would fit", example(), []int{0, 0, 1}, api.ErrFull},
		{"not safe now, but at the end", change(func(s *api.Shift) { s.From = []int{0, 0, 0}; s.To = []int{0, 3, 4}; s.Room = []int{0, 0, 0, 1, 1} }), []int{0, 0, 0}, api.ErrFloor},
		{"safe now, but not at the end", change(func(s *api.Shift) { s.To = []int{1, 1, 2}; s.Room[1] = 1 }), []int{0, 0, 0}, api.ErrFloor},
		{"not safe at the end, and no way", change(func(s *api.Shift) { s.To = []int{1, 1, 2} }), []int{0, 0, 0}, api.ErrFloor},
		{"no room at the end", change(func(s *api.Shift) { s.Room[3] = 0 }), []int{0, 0, 0}, api.ErrNone},
		{"no room in between", change(func(s *api.Shift) { s.To = []int{1, 2, 0}; s.Room[3] = 0 }), []int{0, 0, 0}, api.ErrNone},
		{"room in between, but not safe", change(func(s *api.Shift) { s.To = []int{1, 2, 0}; s.Room[0] = 1 }), []int{0, 0, 0}, api.ErrNone},
		{"room in between, and safe", change(func(s *api.Shift) { s.Code = api.Code{Data: 1, Globals: 2}; s.To = []int{1, 2, 0}; s.Room[0] = 1 }), []int{0, 0, 0}, api.OK},
		{"not safe in between", change(func(s *api.Shift) { s.To = []int{2, 1, 0}; s.Room = []int{1, 0, 0, 0, 0} }), []int{0, 0, 0}, api.ErrNone},
		{"safe in between, with more room", change(func(s *api.Shift) { s.To = []int{2, 1, 0}; s.Room = []int{1, 0, 1, 0, 0} }), []int{0, 0, 0}, api.OK},
		{"nothing to do, but not safe", change(func(s *api.Shift) { s.From = []int{0, 0, 2}; s.To = s.From }), []int{0, 0, 0}, api.ErrFloor},
		{"nothing to do", change(func(s *api.Shift) { s.To = s.From }), []int{0, 0, 0}, api.OK},
		{"at the end, which does not fit", change(func(s *api.Shift) { s.Room[3] = 0 }), []int{2, 0, 2}, api.ErrFull},
	} {
		if steps, e := moves.Plan(x.s, x.phases); e != x.want || e != api.OK && len(steps) > 0 {
			t.Error("P13.5: Plan with", x.name, steps, e, "and not", x.want)
		}
	}
}

// TestSlowPlan seeks a plan where there is none among many phases.
func TestSlowPlan(t *testing.T) {
	s := api.Shift{Domains: api.Domains{Racks: make([]api.Rack, 24), Houses: []int{0}, Owners: 1}, Code: api.Code{Data: 16, Groups: [][]int{{0, 1, 2, 3}, {4, 5, 6, 7}, {8, 9, 10, 11}, {12, 13, 14, 15}}, Globals: 4}, Floor: 4}
	for disk := range 48 {
		s.Domains.Disks, s.Room = append(s.Domains.Disks, disk%24), append(s.Room, disk/24)
	}
	for piece := range 24 {
		s.From, s.To = append(s.From, piece), append(s.To, piece)
		if piece >= 16 {
			s.To[piece] = 24 + (piece*7+3)%24
		}
	}
	for _, last := range []int{23, 20, 16} {
		s.Room[s.To[last]] = 0
		steps, e := moves.Plan(s, make([]int, 24))
		if e != api.ErrNone && e != api.ErrFloor || len(steps) > 0 {
			t.Error("P13.5: Plan of", s, steps, e)
		}
		s.Room[s.To[last]] = 1
	}
}
