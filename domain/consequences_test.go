package domain_test

import (
	"math/bits"
	"math/rand"
	"slices"
	"testing"

	"quietus/api"
	"quietus/domain"
)

// parts are the domains of a lower level in a domain of another one, with those that have no disks; it does not call the package.
func parts(d api.Domains, level, n, lower int) []int {
	l := []int{n}
	for ; level > lower; level-- {
		var next []int
		for k := range wantSize(d, level-1) {
			up := 0
			switch level {
			case api.LvRack:
				up = d.Disks[k]
			case api.LvHouse:
				up = d.Racks[k].House
			case api.LvOwner:
				up = d.Houses[k]
			}
			if slices.Contains(l, up) {
				next = append(next, k)
			}
		}
		l = next
	}
	return l
}

// TestLevels checks that what is in one domain is in one domain of each higher level.
func TestLevels(t *testing.T) {
	each(t, 11, 60, func(r *rand.Rand, d api.Domains) {
		for a := range d.Disks {
			for b := range d.Disks {
				together := false
				for _, level := range allLevels {
					x, y := domain.Of(d, level, a), domain.Of(d, level, b)
					if !isIn(x, domain.Size(d, level)) || together && x != y {
						t.Fatal("P10.6: Of", d, level, a, b, x, y)
					}
					together = x == y
				}
			}
		}
	})
}

// TestMembersAreAll checks that the members of the domains of a level are all disks, each one once.
func TestMembersAreAll(t *testing.T) {
	each(t, 12, 300, func(r *rand.Rand, d api.Domains) {
		for _, level := range allLevels {
			var all []int
			for n := range domain.Size(d, level) {
				l := domain.Members(d, level, n)
				if !slices.IsSorted(l) {
					t.Fatal("P10.2: Members of", d, level, n, l)
				}
				for _, disk := range l {
					if domain.Of(d, level, disk) != n {
						t.Fatal("P10.6: Members of", d, level, n, l)
					}
				}
				all = append(all, l...)
			}
			slices.Sort(all)
			for k, disk := range all {
				if k != disk {
					t.Fatal("P10.6: all Members of", d, level, all)
				}
			}
			if len(all) != len(d.Disks) {
				t.Fatal("P10.6: all Members of", d, level, all)
			}
		}
	})
}

// TestRelateIsADistance checks that Relate is the same in both directions, and no way round is shorter.
func TestRelateIsADistance(t *testing.T) {
	each(t, 13, 25, func(r *rand.Rand, d api.Domains) {
		relate := map[[2]int]int{}
		many := len(d.Disks) + 1 // one number is not a disk
		for a := range many {
			for b := range many {
				relate[[2]int{a, b}] = domain.Relate(d, a, b)
			}
		}
		for a := range many {
			for b := range many {
				ab := relate[[2]int{a, b}]
				if ab != relate[[2]int{b, a}] || (ab == 0) != (a == b && a < many-1) {
					t.Fatal("P10.6: Relate of", d, a, b, ab)
				}
				for c := range many {
					if relate[[2]int{a, c}] > max(ab, relate[[2]int{b, c}]) {
						t.Fatal("P10.6: Relate of", d, a, b, c)
					}
				}
			}
		}
	})
}

// TestMoreFailed checks that no more is left when more domains fail, and that all that is on a disk is left if none does, and nothing if all do.
func TestMoreFailed(t *testing.T) {
	each(t, 14, 1000, func(r *rand.Rand, d api.Domains) {
		layout, placed := anyLayout(r, d), 0
		for piece, disk := range layout {
			if isIn(disk, len(d.Disks)) {
				placed |= 1 << piece
			}
		}
		for _, level := range allLevels {
			failed, left := []int{}, domain.Left(d, level, layout, nil)
			if left != placed {
				t.Fatalf("P10.4: Left of %v %d %v: %b", d, level, layout, left)
			}
			for _, n := range r.Perm(domain.Size(d, level)) {
				failed = append(failed, n)
				next := domain.Left(d, level, layout, failed)
				if next&^left != 0 {
					t.Fatalf("P10.7: Left of %v %d %v %v: %b after %b", d, level, layout, failed, next, left)
				}
				left = next
			}
			if left != 0 {
				t.Fatalf("P10.7: Left of %v %d %v when all have failed: %b", d, level, layout, left)
			}
		}
	})
}

// TestPartsFail checks that a domain fails as all domains of a lower level in it do together.
func TestPartsFail(t *testing.T) {
	each(t, 15, 400, func(r *rand.Rand, d api.Domains) {
		layout := anyLayout(r, d)
		for _, level := range allLevels {
			for n := range domain.Size(d, level) {
				left := domain.Left(d, level, layout, []int{n})
				for lower := range level + 1 {
					if got := domain.Left(d, lower, layout, parts(d, level, n, lower)); got != left {
						t.Fatalf("P10.7: Left of %v %v: %d of the level %d: %b, its parts of the level %d: %b", d, layout, n, level, left, lower, got)
					}
				}
			}
		}
	})
}

// TestHoldsIsNotLeft checks that what Holds counts is what is lost when the domain fails alone.
func TestHoldsIsNotLeft(t *testing.T) {
	each(t, 16, 1000, func(r *rand.Rand, d api.Domains) {
		layout := anyLayout(r, d)
		for _, level := range allLevels {
			before := domain.Left(d, level, layout, nil)
			for n, many := range domain.Holds(d, level, layout) {
				lost := before &^ domain.Left(d, level, layout, []int{n})
				if bits.OnesCount(uint(lost)) != many {
					t.Fatalf("P10.7: Holds of %v %d %v in %d: %d, but %b is lost", d, level, layout, n, many, lost)
				}
			}
		}
	})
}

// changed checks that two domains have the same disks, and that each one is in the same domain of each level but those of some disks from a level on, which are in others.
func changed(t *testing.T, d, after api.Domains, disks []int, want map[int]int) {
	t.Helper()
	if e := domain.Check(after); e != api.OK {
		t.Fatal("P10.8: Check after a change", d, after, e)
	}
	for _, level := range allLevels {
		if domain.Size(d, level) != domain.Size(after, level) {
			t.Fatal("P10.8: Size after a change", d, after, level)
		}
		for disk := range d.Disks {
			due := domain.Of(d, level, disk)
			if n, ok := want[level]; ok && slices.Contains(disks, disk) {
				due = n
			}
			if got := domain.Of(after, level, disk); got != due {
				t.Fatal("P10.8: Of after a change", d, after, level, disk, got)
			}
		}
	}
}

// TestChanges checks that Sell changes only the owner of the disks in the house, and Ship only the house and the owner of those in the van.
func TestChanges(t *testing.T) {
	each(t, 17, 150, func(r *rand.Rand, d api.Domains) {
		for house := range d.Houses {
			for owner := range d.Owners {
				after, e := domain.Sell(d, house, owner)
				if e != api.OK {
					t.Fatal("P10.5: Sell of", d, house, owner, e)
				}
				changed(t, d, after, domain.Members(d, api.LvHouse, house), map[int]int{api.LvOwner: owner})
			}
		}
		for rack := range d.Racks {
			for house := range d.Houses {
				after, e := domain.Ship(d, rack, house)
				if !d.Racks[rack].Van {
					continue
				}
				if e != api.OK || !slices.EqualFunc(d.Racks, after.Racks, func(a, b api.Rack) bool { return a.Van == b.Van }) {
					t.Fatal("P10.5: Ship of", d, rack, house, after, e)
				}
				changed(t, d, after, domain.Members(d, api.LvRack, rack), map[int]int{api.LvHouse: house, api.LvOwner: d.Houses[house]})
			}
		}
	})
}

// TestBackAndForth checks that a house that is bought back, and a van that returns, leave everything as it was.
func TestBackAndForth(t *testing.T) {
	each(t, 18, 300, func(r *rand.Rand, d api.Domains) {
		for house, owner := range d.Houses {
			sold, _ := domain.Sell(d, house, r.Intn(d.Owners))
			if back, e := domain.Sell(sold, house, owner); !equal(back, d) || e != api.OK {
				t.Fatal("P10.5: Sell of", sold, house, owner, back, e)
			}
		}
		for rack, x := range d.Racks {
			away, _ := domain.Ship(d, rack, r.Intn(len(d.Houses)))
			if back, e := domain.Ship(away, rack, x.House); x.Van && (!equal(back, d) || e != api.OK) {
				t.Fatal("P10.5: Ship of", away, rack, x.House, back, e)
			}
		}
	})
}
