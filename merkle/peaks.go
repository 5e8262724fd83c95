package merkle

import (
	"math/bits"
	"slices"

	"quietus/api"
)

// Append returns the peaks of a list with one more element.
func Append(p api.Peaks, leaf api.Digest) (api.Peaks, api.Errno) {
	switch {
	case !wellFormed(p):
		return api.Peaks{}, api.ErrArg
	case p.Size == api.MaxLeaves:
		return api.Peaks{}, api.ErrLimit
	}
	keep := len(p.Tops) - bits.TrailingZeros(^uint(p.Size)) // a carry of Size + 1 joins two parts of equal size
	top := joined(p.Tops[keep:], leaf)
	return api.Peaks{Size: p.Size + 1, Tops: append(slices.Clone(p.Tops[:keep]), top)}, api.OK
}

// Top returns the root of a list.
func Top(p api.Peaks) (api.Digest, api.Errno) {
	if !wellFormed(p) {
		return api.Digest{}, api.ErrArg
	}
	if p.Size == 0 {
		return Root(nil), api.OK
	}
	last := len(p.Tops) - 1
	return joined(p.Tops[:last], p.Tops[last]), api.OK
}

// wellFormed reports whether there are as many tops as the size has parts.
func wellFormed(p api.Peaks) bool {
	return p.Size >= 0 && p.Size <= api.MaxLeaves && len(p.Tops) == bits.OnesCount(uint(p.Size))
}

// joined returns the root of parts, given the root of each: last is that of the last one, and each part is at least as long as all after it together.
func joined(tops []api.Digest, last api.Digest) api.Digest {
	for _, top := range slices.Backward(tops) {
		last = Node(top, last)
	}
	return last
}
