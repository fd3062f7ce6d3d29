package sha

import (
	"math/bits"

	"hayloft/api"
)

type block [blockSize]byte

// state: what goes from block to block.
type state [8]uint32

// round: the state behind one block more.
func (e *Engine) round(s state, full *block) state {
	e.blocks.Add(1)
	w := spread(full)
	next := s.stir(&w, &e.primes().keys)
	for i := range s {
		s[i] += next[i]
	}
	return s
}

// stir: the state behind the 64 steps. Its words stand in variables of their own, since they move on at each step.
func (s state) stir(w, keys *[64]uint32) state {
	a, b, c, d, e, f, g, h := s[0], s[1], s[2], s[3], s[4], s[5], s[6], s[7]
	for i := range keys {
		choice := e&f ^ ^e&g
		most := a&b ^ a&c ^ b&c
		low := h + mix(e, 6, 11, 25) + choice + keys[i] + w[i]
		high := mix(a, 2, 13, 22) + most
		a, b, c, d, e, f, g, h = low+high, a, b, c, d+low, e, f, g
	}
	return state{a, b, c, d, e, f, g, h}
}

// hash: the words, each with its highest byte first.
func (s state) hash() api.Hash {
	var h api.Hash
	for i := range h {
		h[i] = byte(s[i/4] >> (24 - i%4*8))
	}
	return h
}

// spread: a block's 16 words, and those that follow from them, one for each step.
func spread(full *block) [64]uint32 {
	var w [64]uint32
	for i, c := range full {
		w[i/4] = w[i/4]<<8 | uint32(c)
	}
	for i := 16; i < len(w); i++ {
		far, near := w[i-15], w[i-2]
		w[i] = w[i-16] + w[i-7] +
			(right(far, 7) ^ right(far, 18) ^ far>>3) +
			(right(near, 17) ^ right(near, 19) ^ near>>10)
	}
	return w
}

func mix(w uint32, a, b, c int) uint32 {
	return right(w, a) ^ right(w, b) ^ right(w, c)
}

func right(w uint32, n int) uint32 {
	return bits.RotateLeft32(w, -n)
}
