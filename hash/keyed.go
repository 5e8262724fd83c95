package hash

const (
	outerMask = 0x5c
	innerMask = 0x36
)

// keyed is the two streams of a keyed hash that have taken in the key, so that many messages can be hashed with it.
type keyed struct{ inner, outer Stream }

// keyedBy returns the keyed hash of a key.
func keyedBy(key string) keyed {
	block := keyBlock(key)
	return keyed{inner: Begin().Add(masked(block, innerMask)), outer: Begin().Add(masked(block, outerMask))}
}

// sum returns the keyed hash of a message that was added to the inner stream.
func (k keyed) sum(message Stream) [32]byte {
	inner := message.Sum()
	return k.outer.Add(string(inner[:])).Sum()
}

// keyBlock returns the block of a key.
func keyBlock(key string) [blockSize]byte {
	var block [blockSize]byte
	if len(key) > blockSize {
		sum := Begin().Add(key).Sum()
		copy(block[:], sum[:])
	} else {
		copy(block[:], key)
	}
	return block
}

// masked returns the bytes of a block, each of them combined with a mask.
func masked(block [blockSize]byte, mask byte) string {
	for i := range block {
		block[i] ^= mask
	}
	return string(block[:])
}
