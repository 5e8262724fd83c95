package code

import (
	"slices"

	"quietus/api"
	"quietus/gf"
)

// stairs are rows of which each one that is there begins with a 1, in a column of its own; only the first columns, as many as width, count for that, and further ones go with them.
type stairs struct {
	width, height int
	steps         [api.MaxData][]uint8 // for each column, the row that begins there
}

// full says whether a row begins in each column.
func (s *stairs) full() bool { return s.height == s.width }

// add makes a row part of the stairs, if it is not a sum of multiples of the rows that are there, and says whether they need more.
func (s *stairs) add(row []uint8) bool {
	s.lower(row, 0)
	k := slices.IndexFunc(row[:s.width], func(c uint8) bool { return c != 0 })
	if k >= 0 {
		inverse, _ := gf.Inv(row[k]) // it is not 0
		for j, c := range row {
			row[j] = gf.Mul(inverse, c)
		}
		s.steps[k] = row
		s.height++
	}
	return !s.full()
}

// lower takes from a row the multiples of rows that make it 0 where they begin, from a column on.
func (s *stairs) lower(row []uint8, from int) {
	for k := from; k < s.width; k++ {
		by := row[k]
		if by == 0 {
			continue
		}
		for j, c := range s.steps[k] { // none, if no row begins in this column
			row[j] ^= gf.Mul(by, c)
		}
	}
}

// results returns, for each column, the bytes that go with it when all other columns are 0. The stairs have to be full.
func (s *stairs) results() []string {
	all := make([]string, s.width)
	for k := s.width - 1; k >= 0; k-- {
		s.lower(s.steps[k], k+1)
		all[k] = string(s.steps[k][s.width:])
	}
	return all
}
