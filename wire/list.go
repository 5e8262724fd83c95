package wire

import "quietus/api"

// appendBytes appends the encoding of a byte string.
func appendBytes(b []byte, s string) []byte {
	return append(appendInt(b, len(s)), s...)
}

// appendDigest appends a digest: all digests are equally long, so that none needs its length.
func appendDigest(b []byte, d api.Digest) []byte { return append(b, d[:]...) }

// getDigest decodes a digest at the beginning of b, whose length getList has checked: all digests of a list are equally long.
func getDigest(b []byte) (api.Digest, int, api.Errno) {
	return api.Digest(b[:api.DigestSize]), api.DigestSize, api.OK
}

// length decodes the length of what follows, in units of at least unit bytes, and the bytes that it takes itself.
func length(b []byte, unit int) (int, int, api.Errno) {
	n, used, e := GetInt(b)
	switch {
	case e != api.OK:
		return 0, 0, e
	case n < 0:
		return 0, 0, api.ErrEncoding
	case n > (len(b)-used)/unit: // divided, since n * unit may be too great for an integer
		return 0, 0, api.ErrTruncated
	}
	return n, used, api.OK
}

// list encodes a list, with a function that appends the encoding of one element.
func list[T any](l []T, add func([]byte, T) []byte) []byte {
	b := appendInt(nil, len(l))
	for _, x := range l {
		b = add(b, x)
	}
	return b
}

// getList decodes a list at the beginning of b, with a function that decodes one element of at least unit bytes. The length is checked before there is memory for the elements, so that no false one can ask for more than b is worth.
func getList[T any](b []byte, unit int, get func([]byte) (T, int, api.Errno)) ([]T, int, api.Errno) {
	n, at, e := length(b, unit)
	if e != api.OK {
		return nil, 0, e
	}
	l := make([]T, 0, n)
	for range n {
		x, used, e := get(b[at:])
		if e != api.OK {
			return nil, 0, e
		}
		l = append(l, x)
		at += used
	}
	return l, at, api.OK
}
