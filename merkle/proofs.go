package merkle

import (
	"slices"

	"quietus/api"
)

// Inclusion returns the proof that a list has its element at a position.
func Inclusion(leaves []api.Digest, i int) ([]api.Digest, api.Errno) {
	if i < 0 || i >= len(leaves) {
		return nil, api.ErrArg
	}
	var path []api.Digest
	var prove func(part []api.Digest, i int)
	prove = func(part []api.Digest, i int) {
		if len(part) == 1 {
			return
		}
		first, second := parts(part)
		if k := len(first); i < k {
			prove(first, i)
			path = append(path, Root(second))
		} else {
			prove(second, i-k)
			path = append(path, Root(first))
		}
	}
	prove(leaves, i)
	return path, api.OK
}

// Consistency returns the proof that the first elements were the whole list once.
func Consistency(leaves []api.Digest, m int) ([]api.Digest, api.Errno) {
	if m < 0 || m > len(leaves) {
		return nil, api.ErrArg
	}
	if m == 0 {
		return nil, api.OK
	}
	var path []api.Digest
	var prove func(part []api.Digest, m int, mark bool)
	prove = func(part []api.Digest, m int, mark bool) {
		if m == len(part) {
			if !mark { // with the mark, the part is the old list, whose root the checker has
				path = append(path, Root(part))
			}
			return
		}
		first, second := parts(part)
		if k := len(first); m <= k {
			prove(first, m, mark)
			path = append(path, Root(second))
		} else {
			prove(second, m-k, false)
			path = append(path, Root(first))
		}
	}
	prove(leaves, m, true)
	return path, api.OK
}

// Many returns the proof that a list has its elements at several positions.
func Many(leaves []api.Digest, places []int) ([]api.Digest, api.Errno) {
	if !ascending(places, len(leaves)) {
		return nil, api.ErrArg
	}
	if len(leaves) == 0 {
		return nil, api.OK
	}
	var path []api.Digest
	var prove func(from int, part []api.Digest, places []int)
	prove = func(from int, part []api.Digest, places []int) {
		if len(places) == 0 {
			path = append(path, Root(part))
			return
		}
		if len(part) == 1 {
			return
		}
		first, second := parts(part)
		middle := from + len(first)
		j, _ := slices.BinarySearch(places, middle)
		prove(from, first, places[:j])
		prove(middle, second, places[j:])
	}
	prove(0, leaves, places)
	return path, api.OK
}
