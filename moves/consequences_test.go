package moves_test

import (
	"math/rand"
	"slices"
	"testing"

	"quietus/api"
	"quietus/code"
	"quietus/moves"
)

// safePlan returns right phases, a plan from there on, and whether there is one.
func safePlan(r *rand.Rand, s api.Shift) ([]int, []int, bool) {
	phases := anyPhases(r, s, 5+r.Intn(10))
	steps, e := moves.Plan(s, phases)
	return phases, steps, e == api.OK
}

// TestStopped stops plans at each step, lets racks fail, and decodes the chunk from what is left.
func TestStopped(t *testing.T) {
	decoded := 0
	try := func(r *rand.Rand, s api.Shift) {
		phases, steps, ok := safePlan(r, s)
		if !ok {
			return
		}
		data := make([]byte, 1+r.Intn(40))
		r.Read(data)
		pieces, e := code.Encode(s.Code, string(data))
		if e != api.OK {
			t.Fatal("P7.3: Encode with", s.Code, e)
		}
		for k := range len(steps) + 1 {
			if k > 0 {
				phases[steps[k-1]]++
			}
			if !moves.Safe(s, phases) || !moves.Fits(s, phases) {
				t.Fatal("P13.6: not safe or without room after", k, "steps of", steps, "with", s)
			}
			failed := r.Perm(len(s.Domains.Racks))
			failed = failed[:min(len(failed), s.Floor-1)]
			left := moves.Left(s, phases, failed)
			if got, e := code.Decode(s.Code, len(data), left, pieces); got != string(data) || e != api.OK {
				t.Fatal("P13.6: Decode with", s, phases, "after the failure of", failed, e)
			}
			decoded++
		}
		if !slices.Equal(phases, wantEnd(s)) {
			t.Fatal("P13.5: after", steps, "with", s, "the phases are", phases)
		}
	}
	each(t, 21, 3000, small, try)
	each(t, 22, 1000, middle, try)
	each(t, 23, 200, great, try)
	if decoded < 3000 {
		t.Error("too few cases:", decoded)
	}
}

// TestCopiedBeforeDropped counts the steps of each piece: two for one that moves and is not on its way, of which the first one copies it.
func TestCopiedBeforeDropped(t *testing.T) {
	plans := 0
	each(t, 24, 3000, middle, func(r *rand.Rand, s api.Shift) {
		phases, steps, ok := safePlan(r, s)
		if !ok {
			return
		}
		for piece := range s.From {
			many, want := 0, 0
			for _, step := range steps {
				if step == piece {
					many++
				}
			}
			if s.From[piece] != s.To[piece] {
				want = 2 - phases[piece]
			}
			if many != want {
				t.Fatal("P13.6:", many, "steps of the piece", piece, "in", steps, "with", s, phases)
			}
		}
		plans++
	})
	if plans < 500 {
		t.Error("too few cases:", plans)
	}
}

// TestGoneOn stops plans at each step, and plans the rest.
func TestGoneOn(t *testing.T) {
	stopped := 0
	try := func(r *rand.Rand, s api.Shift) {
		phases, steps, ok := safePlan(r, s)
		if !ok {
			return
		}
		for k, step := range steps {
			phases[step]++
			if rest, e := moves.Plan(s, phases); !slices.Equal(rest, steps[k+1:]) || e != api.OK {
				t.Fatal("P13.7: after", k+1, "steps of", steps, "with", s, "the plan is", rest, e)
			}
			stopped++
		}
	}
	each(t, 25, 6000, small, try)
	each(t, 26, 3000, middle, try)
	each(t, 27, 50, great, try)
	if stopped < 3000 {
		t.Error("too few cases:", stopped)
	}
}

// TestMore checks that with more room, or a lesser Floor, there is a plan if there was one.
func TestMore(t *testing.T) {
	seen := map[[2]bool]int{}
	try := func(r *rand.Rand, s api.Shift) {
		phases, steps, ok := safePlan(r, s)
		more := copied(s)
		for range 1 + r.Intn(3) {
			disk := r.Intn(len(more.Room))
			more.Room[disk] = min(api.MaxPieces, more.Room[disk]+1+r.Intn(2))
		}
		if r.Intn(2) == 0 {
			more.Floor = 1 + r.Intn(more.Floor)
		}
		next, e := moves.Plan(more, phases)
		if ok && (e != api.OK || slices.Compare(next, steps) > 0) {
			t.Fatal("P13.8: with", s, phases, "the plan is", steps, "but with more", more, next, e)
		}
		seen[[2]bool{ok, e == api.OK}]++
	}
	each(t, 28, 4000, small, try)
	each(t, 29, 2000, middle, try)
	if min(seen[[2]bool{true, true}], seen[[2]bool{false, true}], seen[[2]bool{false, false}]) < 300 {
		t.Error("too few cases:", seen)
	}
}

// TestNewMemory writes to plans and to arguments: later plans do not change.
func TestNewMemory(t *testing.T) {
	plans := 0
	each(t, 30, 1000, small, func(r *rand.Rand, s api.Shift) {
		phases, want, ok := safePlan(r, s)
		if !ok || len(want) == 0 {
			return
		}
		before := slices.Clone(phases)
		got, _ := moves.Plan(s, phases)
		for k := range got {
			got[k] = -5
		}
		_ = append(got, -5)
		if again, e := moves.Plan(s, phases); !slices.Equal(again, want) || e != api.OK || !slices.Equal(phases, before) {
			t.Fatal("chapter 13: plans in shared memory:", s, before, phases, again, want)
		}
		plans++
	})
	if plans < 100 {
		t.Error("too few cases:", plans)
	}
}

// TestAnyArguments calls all functions with any numbers: none of them panics, and the results are those of the references.
func TestAnyArguments(t *testing.T) {
	r := rand.New(rand.NewSource(31))
	any := func() int { return someNumbers[r.Intn(len(someNumbers))] }
	seen := map[api.Errno]int{}
	for range 20000 {
		s := copied(small(r))
		phases := anyPhases(r, s, 5)
		for range r.Intn(3) {
			switch k := r.Intn(9); k {
			case 0:
				s.Floor = any()
			case 1:
				s.Room[r.Intn(len(s.Room))] = any()
			case 2:
				s.From[r.Intn(len(s.From))] = any()
			case 3:
				s.To[r.Intn(len(s.To))] = any()
			case 4:
				s.Domains.Disks[r.Intn(len(s.Domains.Disks))] = any()
			case 5:
				s.Domains.Owners = any()
			case 6:
				s.Code = api.Code{Data: any(), Groups: make([][]int, r.Intn(12)), Globals: any()}
			case 7:
				s.Code.Groups = append(s.Code.Groups, []int{any()})
			case 8:
				phases = spoilt(r, append(phases, 0)[:max(1, len(phases))])
			}
		}
		racks := []int{any(), any()}
		e := moves.Check(s)
		if e != wantCheck(s) {
			t.Fatal("P13.1: Check of", s, e, "and not", wantCheck(s))
		}
		steps, f := moves.Plan(s, phases)
		left, safe, fits := moves.Left(s, phases, racks), moves.Safe(s, phases), moves.Fits(s, phases)
		seen[f]++
		if e != api.OK || !wantPhases(s, phases) {
			if left != 0 || safe || fits || len(steps) != 0 || e != api.OK && f != e || e == api.OK && f != api.ErrArg {
				t.Fatal("P13.1: with", s, phases, e, left, safe, fits, steps, f)
			}
			continue
		}
		want, g := wantPlan(s, phases)
		if left != wantLeft(s, phases, racks) || safe != wantSafe(s, phases) || fits != wantFits(s, phases) || !slices.Equal(steps, want) || f != g {
			t.Fatal("P1: with", s, phases, racks, left, safe, fits, steps, f)
		}
	}
	enough(t, seen, 100, api.OK, api.ErrArg, api.ErrRange, api.ErrFull, api.ErrFloor, api.ErrNone)
}

// wantCheck is the first error of a shift with few pieces.
func wantCheck(s api.Shift) api.Errno {
	if e := code.Check(s.Code); e != api.OK {
		return e
	}
	d := s.Domains
	if !isIn(d.Owners, 9) {
		return api.ErrArg
	}
	for _, rack := range d.Disks {
		if !isIn(rack, len(d.Racks)) {
			return api.ErrArg
		}
	}
	for _, owner := range d.Houses {
		if !isIn(owner, d.Owners) {
			return api.ErrArg
		}
	}
	if !isIn(s.Floor-1, 4) {
		return api.ErrRange
	}
	for _, room := range s.Room {
		if !isIn(room, 25) {
			return api.ErrArg
		}
	}
	n := s.Code.Data + len(s.Code.Groups) + s.Code.Globals
	if len(s.Room) != len(d.Disks) || len(s.From) != n || len(s.To) != n {
		return api.ErrArg
	}
	for _, disk := range slices.Concat(s.From, s.To) {
		if !isIn(disk, len(d.Disks)) {
			return api.ErrArg
		}
	}
	return api.OK
}
