package crc

// A register is a polynomial over the two numbers 0 and 1, its highest bit the one of x^0:
// a step is a product with x, and bytes 0 are a power of x. So n of them need no n rounds.

const (
	divisor = 0x82F63B78 // x^32, the rest of it
	one     = 1 << 31
	oneByte = one >> 8
)

// step: r, one bit on.
func step(r uint32) uint32 {
	if r&1 != 0 {
		return r>>1 ^ divisor
	}
	return r >> 1
}

// times: the product of a and b.
func times(a, b uint32) uint32 {
	p := uint32(0)
	for m := uint32(one); m != 0; m >>= 1 {
		if a&m != 0 {
			p ^= b
		}
		b = step(b)
	}
	return p
}

// behind: what the register r is behind n bytes 0. It halves n, and so makes no product of n and 8.
func behind(r uint32, n int) uint32 {
	for p := uint32(oneByte); n > 0; n /= 2 {
		if n%2 != 0 {
			r = times(r, p)
		}
		p = times(p, p)
	}
	return r
}
