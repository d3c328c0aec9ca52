// Package sum works out SHA-256 (FIPS 180-4).
package sum

import "math/bits"

const (
	// Size is how many bytes a sum has.
	Size = 32

	blockSize = 64
	// lengthAt is where, in the last block, the length of the text stands.
	lengthAt = blockSize - 8
)

// Of gives the sum of a text's bytes.
func (c *Constants) Of(text string) [Size]byte {
	state := c.first
	for rest := padded(text); len(rest) > 0; rest = rest[blockSize:] {
		state = mixed(state, c.added, schedule(rest[:blockSize]))
	}
	var sum [Size]byte
	for i := range sum {
		sum[i] = byte(state[i/4] >> (24 - i%4*8))
	}
	return sum
}

// padded gives whole blocks: the text, a bit 1, bits 0, and how many bits the
// text has.
func padded(text string) []byte {
	b := append([]byte(text), 0x80)
	for len(b)%blockSize != lengthAt {
		b = append(b, 0)
	}
	size := uint64(len(text)) * 8
	for shift := 56; shift >= 0; shift -= 8 {
		b = append(b, byte(size>>shift))
	}
	return b
}

// schedule spreads a block's 16 words over all rounds.
func schedule(block []byte) [roundWords]uint32 {
	var w [roundWords]uint32
	for i := range blockSize {
		w[i/4] = w[i/4]<<8 | uint32(block[i])
	}
	for i := 16; i < len(w); i++ {
		early, late := w[i-15], w[i-2]
		s0 := turned(early, 7) ^ turned(early, 18) ^ early>>3
		s1 := turned(late, 17) ^ turned(late, 19) ^ late>>10
		w[i] = w[i-16] + s0 + w[i-7] + s1
	}
	return w
}

// mixed gives the state behind a block. The letters are those of FIPS 180-4.
func mixed(state [startWords]uint32, added, w [roundWords]uint32) [startWords]uint32 {
	a, b, c, d := state[0], state[1], state[2], state[3]
	e, f, g, h := state[4], state[5], state[6], state[7]
	for i := range w {
		s1 := turned(e, 6) ^ turned(e, 11) ^ turned(e, 25)
		choice := e&f ^ ^e&g
		t1 := h + s1 + choice + added[i] + w[i]
		s0 := turned(a, 2) ^ turned(a, 13) ^ turned(a, 22)
		majority := a&b ^ a&c ^ b&c
		t2 := s0 + majority
		a, b, c, d, e, f, g, h = t1+t2, a, b, c, d+t1, e, f, g
	}
	for i, word := range [...]uint32{a, b, c, d, e, f, g, h} {
		state[i] += word
	}
	return state
}

// turned moves bits to the right; those that fall off come in again at the
// left.
func turned(word uint32, by int) uint32 {
	return bits.RotateLeft32(word, -by)
}
