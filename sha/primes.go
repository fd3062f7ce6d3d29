package sha

import (
	"math/bits"
	"slices"
)

// rootBits: 32 behind the point, and 3 ahead of it: the greatest roots, of 19 and of 311, are below 8.
const rootBits = 35

// words: those of primes.
type words struct {
	start state      // of the square roots of the first eight
	keys  [64]uint32 // of the cube roots of the first 64
}

func (w *words) reckon() {
	for i, p := range firstPrimes(len(w.keys)) {
		w.keys[i] = behindPoint(cubeFits(p))
		if i < len(w.start) {
			w.start[i] = behindPoint(squareFits(p))
		}
	}
}

// squareFits: of a number with 32 bits behind its point: whether its square is at most p.
// A prime is no square, so that the upper half tells it alone.
func squareFits(p uint64) func(uint64) bool {
	return func(n uint64) bool {
		high, _ := bits.Mul64(n, n)
		return high < p
	}
}

// cubeFits: likewise, whether its cube is at most p: 96 bits are behind that one's point.
func cubeFits(p uint64) func(uint64) bool {
	return func(n uint64) bool {
		high, low := bits.Mul64(n, n)
		more, _ := bits.Mul64(low, n)
		return high*n+more < p<<32
	}
}

// behindPoint: 32 bits of the last number that fits; all below that one must fit too.
func behindPoint(fits func(uint64) bool) uint32 {
	var last uint64
	for bit := uint64(1) << (rootBits - 1); bit > 0; bit >>= 1 {
		if fits(last | bit) {
			last |= bit
		}
	}
	return uint32(last)
}

func firstPrimes(n int) []uint64 {
	var l []uint64
	for p := uint64(2); len(l) < n; p++ {
		if !slices.ContainsFunc(l, func(q uint64) bool { return p%q == 0 }) {
			l = append(l, p)
		}
	}
	return l
}
