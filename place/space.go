package place

import (
	"iter"
	"slices"

	"quietus/api"
	"quietus/domain"
)

// levels is the number of levels of domains; the whole, in which all owners are, is above them.
const levels = api.LvOwner + 1

// space is a task without an error, with pieces on its disks.
type space struct {
	p     api.Placing
	at    [levels][]int // for each level, the domain in which each disk is
	holds [levels][]int // for each level, how many pieces are in each domain
}

// fill returns a task with those pieces of a layout in it that are on a disk.
func fill(p api.Placing, layout []int) *space {
	s := &space{p: p}
	for level := range levels {
		s.at[level] = make([]int, len(p.Domains.Disks))
		for disk := range s.at[level] {
			s.at[level][disk] = domain.Of(p.Domains, level, disk)
		}
		s.holds[level] = domain.Holds(p.Domains, level, layout)
	}
	return s
}

// allows says whether pieces may be on a disk.
func (s *space) allows(disk int) bool { return s.p.Houses>>s.at[api.LvHouse][disk]&1 == 1 }

// limit returns the limit of a domain of a level.
func (s *space) limit(level, n int) int {
	most := api.MaxPieces
	switch level {
	case api.LvDisk:
		most = s.p.Room[n]
		fallthrough
	case api.LvRack, api.LvHouse, api.LvOwner:
		most = min(most, s.p.Spread[level])
	}
	return most
}

// left returns what is left of the limit of a domain of a level.
func (s *space) left(level, n int) int { return s.limit(level, n) - s.holds[level][n] }

// put puts so many pieces on a disk.
func (s *space) put(disk, many int) {
	for level, at := range s.at {
		s.holds[level][at[disk]] += many
	}
}

// takes says whether one more piece can be on a disk.
func (s *space) takes(disk int) bool {
	if !s.allows(disk) {
		return false
	}
	for level, at := range s.at {
		if s.left(level, at[disk]) == 0 {
			return false
		}
	}
	return true
}

// first returns the first disk that takes one more piece, or that there is none.
func (s *space) first() int {
	for disk := range s.p.Domains.Disks {
		if s.takes(disk) {
			return disk
		}
	}
	return nowhere
}

// narrow returns how many more pieces can be placed, and domains that show that there cannot be more: each allowed disk is in one of them, and this is what is left of their limits together.
func (s *space) narrow() (int, []api.Lid) {
	var narrowest func(level, n int) (int, []api.Lid)
	narrowest = func(level, n int) (int, []api.Lid) {
		if level == api.LvDisk {
			if !s.allows(n) {
				return 0, nil
			}
			return s.left(level, n), []api.Lid{{Level: level, Domain: n}}
		}
		inside := 0
		var lids []api.Lid
		for part := range s.parts(level, n) {
			most, l := narrowest(level-1, part)
			inside += most
			lids = append(lids, l...)
		}
		if level < levels && s.left(level, n) <= inside { // where both prove the same, the domain is enough
			return s.left(level, n), []api.Lid{{Level: level, Domain: n}}
		}
		return inside, lids
	}
	return narrowest(levels, 0)
}

// parts yields the domains of the next lower level in a domain of a level, or in the whole.
func (s *space) parts(level, n int) iter.Seq[int] {
	d := s.p.Domains
	return func(yield func(int) bool) {
		for part := range domain.Size(d, level-1) {
			up := n
			switch level {
			case api.LvRack:
				up = d.Disks[part]
			case api.LvHouse:
				up = d.Racks[part].House
			case api.LvOwner:
				up = d.Houses[part]
			}
			if up == n && !yield(part) {
				return
			}
		}
	}
}

// covered says whether each allowed disk is in one of some domains.
func (s *space) covered(l []api.Lid) bool {
	for disk := range s.p.Domains.Disks {
		has := func(lid api.Lid) bool { return s.at[lid.Level][disk] == lid.Domain }
		if s.allows(disk) && !slices.ContainsFunc(l, has) {
			return false
		}
	}
	return true
}
