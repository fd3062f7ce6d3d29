package sha

import "hayloft/api"

const (
	blockSize = 64 // bytes of a block
	tailSize  = 8  // bytes of the length that ends a text's last block
)

// Stream: of a text that comes in pieces.
type Stream struct {
	round func(state, *block) state // of the engine that counts the blocks
	state state
	rest  block // the bytes of a block that is not full yet come first
	size  int
}

// Write: b, behind what was written; how many bytes that is.
func (s *Stream) Write(b []byte) int {
	if s.dead() {
		return 0
	}
	s.take(b)
	return len(b)
}

// Len: how many bytes were written.
func (s *Stream) Len() int {
	if s.dead() {
		return 0
	}
	return s.size
}

// Sum: the hash of all that was written.
func (s *Stream) Sum() api.Hash {
	if s.dead() {
		return api.Hash{}
	}
	end := *s // the stream itself goes on as if it had not been asked
	end.take(tail(s.size))
	return end.state.hash()
}

// dead: a stream that is nil, or that no engine made, can take nothing.
func (s *Stream) dead() bool {
	return s == nil || s.round == nil
}

func (s *Stream) take(b []byte) {
	for len(b) > 0 {
		held := s.size % blockSize
		n := copy(s.rest[held:], b)
		s.size += n
		b = b[n:]
		if held+n == blockSize {
			s.state = s.round(s.state, &s.rest)
		}
	}
}

// tail: what follows a text of size bytes, to the end of a block.
func tail(size int) []byte {
	zeros := (2*blockSize - 1 - tailSize - size%blockSize) % blockSize
	t := make([]byte, 1+zeros, 1+zeros+tailSize)
	t[0] = 0x80
	bits := uint64(size) * 8
	for i := range tailSize {
		t = append(t, byte(bits>>(8*(tailSize-1-i))))
	}
	return t
}
