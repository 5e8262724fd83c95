// Package wire encodes integers, byte strings, and lists of integers, of byte strings and of digests as bytes, and decodes them (layer 1, shared/doc/01-wire.md). Every value has exactly one encoding, and decoding accepts nothing else.
package wire

import "quietus/api"

// Int returns the encoding of an integer.
func Int(n int) []byte { return appendInt(nil, n) }

// GetInt decodes an integer at the beginning of a byte sequence.
func GetInt(b []byte) (int, int, api.Errno) {
	z, used, e := digits(b)
	if e != api.OK {
		return 0, 0, e
	}
	return unfold(z), used, api.OK
}

// Bytes returns the encoding of a byte string.
func Bytes(s string) []byte { return appendBytes(nil, s) }

// GetBytes decodes a byte string at the beginning of a byte sequence.
func GetBytes(b []byte) (string, int, api.Errno) {
	n, used, e := length(b, 1)
	if e != api.OK {
		return "", 0, e
	}
	return string(b[used : used+n]), used + n, api.OK
}

// Ints returns the encoding of a list of integers.
func Ints(l []int) []byte { return list(l, appendInt) }

// GetInts decodes a list of integers at the beginning of a byte sequence.
func GetInts(b []byte) ([]int, int, api.Errno) { return getList(b, 1, GetInt) }

// Strings returns the encoding of a list of byte strings.
func Strings(l []string) []byte { return list(l, appendBytes) }

// GetStrings decodes a list of byte strings at the beginning of a byte sequence.
func GetStrings(b []byte) ([]string, int, api.Errno) { return getList(b, 1, GetBytes) }

// Digests returns the encoding of a list of digests.
func Digests(l []api.Digest) []byte { return list(l, appendDigest) }

// GetDigests decodes a list of digests at the beginning of a byte sequence.
func GetDigests(b []byte) ([]api.Digest, int, api.Errno) {
	return getList(b, api.DigestSize, getDigest)
}
