package wire

import "quietus/api"

const (
	width    = 7          // binary digits of an integer in one byte
	more     = 1 << width // added to each byte but the last one
	maxBytes = 10         // bytes of the longest encoding of an integer
	maxTop   = 1          // its tenth byte has only one of the 64 binary digits
)

// fold numbers the integers by their distance from -1/2, so that those near 0 have short encodings, whatever their sign.
func fold(n int) uint64 {
	if n < 0 {
		return ^(uint64(n) << 1)
	}
	return uint64(n) << 1
}

// unfold is the inverse of fold.
func unfold(z uint64) int {
	if z&1 == 1 {
		return ^int(z >> 1)
	}
	return int(z >> 1)
}

// appendInt appends the encoding of an integer.
func appendInt(b []byte, n int) []byte {
	z := fold(n)
	for z >= more {
		b = append(b, more|byte(z%more))
		z >>= width
	}
	return append(b, byte(z))
}

// digits collects the digits at the beginning of b: their number, and how many they are.
func digits(b []byte) (uint64, int, api.Errno) {
	var z uint64
	used := 0
collect:
	for {
		switch {
		case used == maxBytes:
			return 0, 0, api.ErrEncoding
		case used == len(b):
			return 0, 0, api.ErrTruncated
		case b[used] < more:
			break collect
		}
		z |= uint64(b[used]-more) << (width * used)
		used++
	}
	last := b[used]
	if used == maxBytes-1 && last > maxTop || used > 0 && last == 0 {
		return 0, 0, api.ErrEncoding
	}
	return z | uint64(last)<<(width*used), used + 1, api.OK
}
