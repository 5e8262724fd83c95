package place_test

import (
	"math/rand"
	"slices"
	"testing"

	"quietus/api"
	"quietus/code"
	"quietus/domain"
	"quietus/place"
)

// TestFoundIsRight checks that Right accepts what Find returns, and what Choose returns but for ErrFloor, and no lesser completion.
func TestFoundIsRight(t *testing.T) {
	seen := map[api.Errno]int{}
	each(t, 41, 1500, small, func(r *rand.Rand, p api.Placing) {
		layout := anyLayout(r, p, 1+r.Intn(7))
		chosen, e := place.Choose(p, layout)
		found, f := place.Find(p, layout)
		if e == api.OK {
			if right := place.Right(p, chosen); right != api.OK && right != api.ErrFloor {
				t.Fatal("P11.7: Right of Choose of", p, layout, chosen, right)
			}
		}
		if f == api.OK {
			if right := place.Right(p, found); right != api.OK {
				t.Fatal("P11.7: Right of Find of", p, layout, found, right)
			}
		}
		seen[e]++
		seen[f]++
		completions(p, layout, func(lesser []int) bool {
			right := place.Right(p, lesser)
			if (right == api.OK || right == api.ErrFloor) && (e == api.ErrLost || slices.Compare(lesser, chosen) < 0) {
				t.Fatal("P11.7: Choose of", p, layout, chosen, e, "and not", lesser)
			}
			if right == api.OK && (f == api.ErrFloor || f == api.OK && slices.Compare(lesser, found) < 0) {
				t.Fatal("P11.7: Find of", p, layout, found, f, "and not", lesser)
			}
			return false
		})
	})
	enough(t, seen, 100, api.OK, api.ErrLost, api.ErrFloor)
}

// TestDecoded lets racks fail, and decodes the chunk from what is left.
func TestDecoded(t *testing.T) {
	decoded := 0
	each(t, 42, 1000, mobile, func(r *rand.Rand, p api.Placing) {
		layout := anyLayout(r, p, 0)
		if place.Right(p, layout) != api.OK {
			return
		}
		data := make([]byte, r.Intn(40))
		r.Read(data)
		pieces, e := code.Encode(p.Code, string(data))
		if e != api.OK {
			t.Fatal("P7.3: Encode with", p.Code, e)
		}
		for range 10 {
			failed := r.Perm(len(p.Domains.Racks))
			failed = failed[:min(len(failed), p.Floor-1)]
			left := domain.Left(p.Domains, api.LvRack, layout, failed)
			if got, e := code.Decode(p.Code, len(data), left, pieces); got != string(data) || e != api.OK {
				t.Fatal("P11.9: Decode with", p, layout, "after the failure of", failed, e)
			}
			decoded++
		}
	})
	if decoded < 1000 {
		t.Error("too few cases:", decoded)
	}
}

// more is a task with greater limits, or with more allowed houses.
func more(r *rand.Rand, p api.Placing) api.Placing {
	p = copied(p)
	for range 1 + r.Intn(3) {
		switch k := r.Intn(3); {
		case k == 0:
			level := r.Intn(4)
			p.Spread[level] = min(api.MaxPieces, p.Spread[level]+r.Intn(3))
		case k == 1 && len(p.Room) > 0:
			disk := r.Intn(len(p.Room))
			p.Room[disk] = min(api.MaxPieces, p.Room[disk]+r.Intn(3))
		case k == 2:
			p.Houses |= 1 << r.Intn(len(p.Domains.Houses))
		}
	}
	return p
}

// TestMore checks that neither Room nor the layouts that have a completion become less with greater limits or more houses, and that Room tells whether all pieces have room.
func TestMore(t *testing.T) {
	seen := map[api.Errno]int{}
	try := func(r *rand.Rand, p api.Placing) {
		layout, q := anyLayout(r, p, 2+r.Intn(9)), more(r, p)
		m, _ := place.Room(p)
		n, _ := place.Room(q)
		_, e := place.Choose(p, layout)
		_, f := place.Choose(q, layout)
		if n < m || e == api.OK && f != api.OK {
			t.Fatal("P11.10: with", p, layout, m, e, "but with more", q, n, f)
		}
		all := slices.Repeat([]int{-1}, code.Pieces(p.Code))
		if _, e := place.Choose(p, all); (e == api.OK) != (m >= len(all)) {
			t.Fatal("P11.10: with", p, "Room is", m, "and Choose of all", e)
		}
		seen[e]++
	}
	each(t, 43, 3000, small, try)
	each(t, 44, 200, great, try)
	enough(t, seen, 100, api.OK, api.ErrLost)
}

// TestNewMemory writes to results: neither the arguments nor later results change.
func TestNewMemory(t *testing.T) {
	each(t, 45, 500, small, func(r *rand.Rand, p api.Placing) {
		for _, tenths := range []int{0, 3, 10} {
			layout := append(anyLayout(r, p, tenths), -7)
			layout = layout[:len(layout)-1]
			before := slices.Clone(layout)
			for _, f := range []func(api.Placing, []int) ([]int, api.Errno){place.Choose, place.Find} {
				got, _ := f(p, layout)
				want := slices.Clone(got)
				for k := range got {
					got[k] = -5
				}
				_ = append(got, -5)
				if again, _ := f(p, layout); !slices.Equal(again, want) {
					t.Fatal("chapter 11: results in shared memory:", p, before, again, want)
				}
			}
			lids, _ := place.Refuse(p, layout)
			want := slices.Clone(lids)
			for k := range lids {
				lids[k] = api.Lid{Level: -5, Domain: -5}
			}
			if again, _ := place.Refuse(p, layout); !slices.Equal(again, want) {
				t.Fatal("chapter 11: results in shared memory:", p, before, again, want)
			}
			if !slices.Equal(layout, before) || layout[:len(layout)+1][len(layout)] != -7 {
				t.Fatal("chapter 11: the layout has changed:", before, layout)
			}
		}
	})
}

// TestAnyArguments calls all functions with any numbers: none of them panics, and the errors are those of the references.
func TestAnyArguments(t *testing.T) {
	r := rand.New(rand.NewSource(46))
	any := func() int { return someNumbers[r.Intn(len(someNumbers))] }
	seen := map[api.Errno]int{}
	for range 20000 {
		p := copied(small(r))
		for range r.Intn(3) {
			switch k := r.Intn(9); {
			case k == 0:
				p.Floor = any()
			case k == 1:
				p.Houses = any()
			case k == 2:
				p.Spread[r.Intn(4)] = any()
			case k == 3 && len(p.Room) > 0:
				p.Room[r.Intn(len(p.Room))] = any()
			case k == 4:
				p.Room = append(p.Room, any())
			case k == 5:
				p.Domains.Disks = append(p.Domains.Disks, any())
			case k == 6:
				p.Domains.Owners = any()
			case k == 7:
				p.Code = api.Code{Data: 1 + r.Intn(17), Groups: make([][]int, r.Intn(12)), Globals: r.Intn(6)}
			case k == 8:
				p.Code.Groups = append(p.Code.Groups, []int{any()})
			}
		}
		layout := make([]int, r.Intn(9))
		for k := range layout {
			layout[k] = any()
		}
		l := make([]api.Lid, r.Intn(4))
		for k := range l {
			l[k] = api.Lid{Level: any(), Domain: any()}
		}
		e := place.Check(p)
		if e != wantCheck(p) {
			t.Fatal("P11.1: Check of", p, e)
		}
		seen[e]++
		n, e0 := place.Room(p)
		e1 := place.Right(p, layout)
		chosen, e2 := place.Choose(p, layout)
		lids, e3 := place.Refuse(p, layout)
		found, e4 := place.Find(p, layout)
		accepted := place.Accept(p, layout, l)
		if e != api.OK && (e0 != e || e1 != e || e2 != e || e3 != e || e4 != e || n != 0 || len(chosen)+len(lids)+len(found) != 0 || accepted) {
			t.Fatal("P11.1: with", p, layout, e, e0, e1, e2, e3, e4)
		}
		if e == api.OK && (e1 != wantRight(p, layout) || accepted != wantAccept(p, layout, l)) {
			t.Fatal("P1: Right and Accept of", p, layout, l, e1, accepted)
		}
	}
	enough(t, seen, 100, api.OK, api.ErrArg, api.ErrRange, api.ErrLimit)
}

// wantCheck is the first error of a task.
func wantCheck(p api.Placing) api.Errno {
	if e := code.Check(p.Code); e != api.OK {
		return e
	}
	if domain.Check(p.Domains) != api.OK {
		return api.ErrArg
	}
	if !isIn(p.Floor-1, 4) {
		return api.ErrRange
	}
	for _, n := range p.Spread {
		if !isIn(n, 25) {
			return api.ErrRange
		}
	}
	if len(p.Room) != len(p.Domains.Disks) {
		return api.ErrArg
	}
	for _, n := range p.Room {
		if !isIn(n, 25) {
			return api.ErrRange
		}
	}
	for bit := range 64 {
		if bit >= len(p.Domains.Houses) && uint64(p.Houses)>>bit&1 == 1 {
			return api.ErrArg
		}
	}
	return api.OK
}
