package place_test

import (
	"math/rand"
	"slices"
	"testing"

	"quietus/api"
	"quietus/place"
)

// allLids are all domains of all levels, in order.
func allLids(p api.Placing) []api.Lid {
	var l []api.Lid
	for level := range 4 {
		for n := range wantSize(p, level) {
			l = append(l, api.Lid{Level: level, Domain: n})
		}
	}
	return l
}

// someLids are some of the domains, in order or not, at times with repetitions and with what is not a domain.
func someLids(r *rand.Rand, p api.Placing) []api.Lid {
	var l []api.Lid
	share := 1 + r.Intn(4)
	for _, x := range allLids(p) {
		if r.Intn(share) == 0 {
			l = append(l, x)
		}
	}
	if len(l) > 0 && r.Intn(4) == 0 {
		k := r.Intn(len(l))
		switch r.Intn(6) {
		case 0:
			l = slices.Insert(l, k, l[k])
		case 1:
			r.Shuffle(len(l), func(i, j int) { l[i], l[j] = l[j], l[i] })
		case 2:
			l[k].Level = someNumbers[r.Intn(len(someNumbers))]
		case 3:
			l[k].Domain = someNumbers[r.Intn(len(someNumbers))]
		case 4:
			l = append(l, api.Lid{Level: 4 + r.Intn(2), Domain: r.Intn(2)})
		case 5:
			l = slices.Insert(l, 0, api.Lid{Level: r.Intn(3) - 2, Domain: r.Intn(3) - 2})
		}
	}
	return l
}

// TestAccept compares Accept with the reference for any lists.
func TestAccept(t *testing.T) {
	seen := [2]int{}
	each(t, 21, 3000, small, func(r *rand.Rand, p api.Placing) {
		layout := anyLayout(r, p, 5+r.Intn(6))
		if r.Intn(8) == 0 {
			layout = spoilt(r, p, layout)
		}
		_, e := wantChoose(p, layout)
		for range 30 {
			l := someLids(r, p)
			before := slices.Clone(l)
			want := wantAccept(p, layout, l)
			if got := place.Accept(p, layout, l); got != want || !slices.Equal(l, before) {
				t.Fatal("P11.5: Accept of", p, layout, before, got)
			}
			if want && e != api.ErrLost {
				t.Fatal("P11.8: Accept of", p, layout, l, "although Choose has", e)
			}
			if want {
				seen[1]++
			} else {
				seen[0]++
			}
		}
	})
	if seen[0] < 1000 || seen[1] < 1000 {
		t.Error("too few cases:", seen)
	}
}

// TestAllProofs looks through all ascending lists of domains of small tasks: one of them is accepted exactly if there is no completion.
func TestAllProofs(t *testing.T) {
	seen := map[api.Errno]int{}
	each(t, 22, 300, func(r *rand.Rand) api.Placing {
		p := anyTask(r, anyDomains(r, r.Intn(5), 1+r.Intn(2), 1+r.Intn(2), 1+r.Intn(2)), 5)
		for level, n := range p.Spread {
			p.Spread[level] = min(api.MaxPieces, n+r.Intn(2))
		}
		return p
	}, func(r *rand.Rand, p api.Placing) {
		layout := anyLayout(r, p, 2+r.Intn(9))
		all := allLids(p)
		accepted := 0
		for set := range 1 << len(all) {
			var l []api.Lid
			for k, x := range all {
				if set>>k&1 == 1 {
					l = append(l, x)
				}
			}
			got := place.Accept(p, layout, l)
			if got != wantAccept(p, layout, l) {
				t.Fatal("P11.5: Accept of", p, layout, l, got)
			}
			if got {
				accepted++
			}
		}
		_, e := wantChoose(p, layout)
		if (accepted > 0) != (e == api.ErrLost) {
			t.Fatal("P11.8:", accepted, "lists are accepted for", p, layout, e)
		}
		seen[e]++
	})
	enough(t, seen, 20, api.OK, api.ErrLost)
}

// refused checks that Refuse returns a proof if there is no completion, and an error otherwise.
func refused(t *testing.T, p api.Placing, layout []int, chosen api.Errno) {
	t.Helper()
	l, e := place.Refuse(p, layout)
	switch {
	case chosen == api.ErrLost:
		if !wantAccept(p, layout, l) || !place.Accept(p, layout, l) || e != api.OK {
			t.Fatal("P11.5: Refuse of", p, layout, l, e)
		}
	case chosen == api.OK:
		if len(l) > 0 || e != api.ErrNone {
			t.Fatal("P11.5: Refuse of", p, layout, l, e, "and not ErrNone")
		}
	case len(l) > 0 || e != chosen:
		t.Fatal("P11.5: Refuse of", p, layout, l, e, "and not", chosen)
	}
}

// TestRefuse asks for proofs for any layouts.
func TestRefuse(t *testing.T) {
	seen := map[api.Errno]int{}
	each(t, 23, 4000, small, func(r *rand.Rand, p api.Placing) {
		for _, layout := range [][]int{anyLayout(r, p, 5+r.Intn(6)), spoilt(r, p, anyLayout(r, p, 4))} {
			_, e := wantChoose(p, layout)
			refused(t, p, layout, e)
			seen[e]++
		}
	})
	each(t, 24, 400, great, func(r *rand.Rand, p api.Placing) {
		layout := anyLayout(r, p, 5+r.Intn(6))
		e := api.OK
		if wantMost(p, layout) < free(layout) {
			e = api.ErrLost
		}
		refused(t, p, layout, e)
		seen[e]++
	})
	enough(t, seen, 40, api.OK, api.ErrLost, api.ErrArg, api.ErrNone, api.ErrDuty, api.ErrFull, api.ErrRange)
}

// TestProofsOfLevels gives tasks in which only the domains of one level are too narrow.
func TestProofsOfLevels(t *testing.T) {
	layout := []int{-1, -1, -1, -1, -1, -1}
	for level, want := range []int{4, 3, 2, 2} {
		p := example()
		p.Domains.Disks = []int{0, 0, 1, 2}
		p.Code = api.Code{Data: 4, Globals: 2}
		p.Spread, p.Room = [4]int{24, 24, 24, 24}, []int{24, 24, 24, 24}
		p.Spread[level] = 1
		l, e := place.Refuse(p, layout)
		if e != api.OK || len(l) != want || !wantAccept(p, layout, l) {
			t.Error("P11.5: Refuse with narrow domains of the level", level, l, e)
		}
		for _, x := range l {
			if x.Level != level {
				t.Error("P11.5: Refuse with narrow domains of the level", level, l)
			}
		}
		for k := range l {
			if place.Accept(p, layout, slices.Delete(slices.Clone(l), k, k+1)) {
				t.Error("P11.5: Accept without", l[k])
			}
		}
		p.Spread[level] = 6
		if place.Accept(p, layout, l) {
			t.Error("P11.5: Accept of", l, "with more room")
		}
	}
}

// TestEmptyProofs checks that nothing has to be covered where no disk is allowed, or there is none; but there has to be a free piece.
func TestEmptyProofs(t *testing.T) {
	p := example()
	p.Houses = 0
	for _, p := range []api.Placing{p, {Code: p.Code, Floor: 1}} {
		layout := []int{-1, -1, -1}
		if l, e := place.Refuse(p, layout); e != api.OK || !place.Accept(p, layout, l) {
			t.Error("P11.5: Refuse without disks", l, e)
		}
		if !place.Accept(p, layout, nil) || !place.Accept(p, layout, []api.Lid{}) {
			t.Error("P11.5: Accept of nothing without disks")
		}
	}
	p = example()
	if place.Accept(p, []int{0, 2, 3}, nil) || place.Accept(p, []int{0, 2, 3}, allLids(p)) {
		t.Error("P11.5: Accept without free pieces")
	}
	if l, e := place.Refuse(p, []int{0, 2, 3}); len(l) > 0 || e != api.ErrNone {
		t.Error("P11.5: Refuse without free pieces", l, e)
	}
	p.Room = []int{0, 0, 0, 0}
	if place.Accept(p, []int{-1, -1, -1}, nil) {
		t.Error("P11.5: Accept of nothing with disks without room")
	}
}

// TestLids checks what is not a domain, and what does not ascend.
func TestLids(t *testing.T) {
	p, layout := example(), []int{-1, -1, -1}
	p.Houses = 1
	lid := func(level, n int) api.Lid { return api.Lid{Level: level, Domain: n} }
	for _, x := range []struct {
		l  []api.Lid
		is bool
	}{
		{[]api.Lid{lid(2, 0)}, true},
		{[]api.Lid{lid(1, 0), lid(1, 1)}, true},
		{[]api.Lid{lid(1, 1), lid(1, 0)}, false},
		{[]api.Lid{lid(0, 2), lid(1, 0)}, true}, // a disk, and the rack of the two others
		{[]api.Lid{lid(1, 0), lid(0, 2)}, false},
		{[]api.Lid{lid(1, 0), lid(1, 0), lid(1, 1)}, false},
		{[]api.Lid{lid(1, 0)}, false},                       // the disk 2 is in none
		{[]api.Lid{lid(0, 0), lid(0, 1), lid(0, 2)}, false}, // three pieces would fit
		{[]api.Lid{lid(1, 0), lid(2, 0)}, false},            // three pieces, as the rack counts too
		{[]api.Lid{lid(3, 0)}, false},
		{[]api.Lid{lid(2, 0), lid(2, 2)}, false},
		{[]api.Lid{lid(2, -1), lid(2, 0)}, false},
		{[]api.Lid{lid(-1, 0), lid(2, 0)}, false},
		{[]api.Lid{lid(2, 0), lid(4, 0)}, false},
		{[]api.Lid{lid(2, 0), lid(3, 2)}, false},
		{nil, false},
	} {
		if got := place.Accept(p, layout, x.l); got != x.is || got != wantAccept(p, layout, x.l) {
			t.Error("P11.5: Accept of", x.l, got)
		}
	}
	p.Spread[2] = 1
	if !place.Accept(p, layout, []api.Lid{lid(1, 0), lid(2, 0)}) {
		t.Error("P11.5: Accept of a disk that is in two domains")
	}
	p.Spread[2], p.Spread[1] = 2, 0
	if !place.Accept(p, []int{-1, -1, -1}, []api.Lid{lid(1, 0), lid(1, 1)}) || place.Accept(p, []int{-1, -1, 0}, []api.Lid{lid(1, 0), lid(1, 1)}) {
		t.Error("P11.5: Accept of a layout that has another error")
	}
}
