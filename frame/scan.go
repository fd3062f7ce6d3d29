package frame

import (
	"iter"

	"hayloft/api"
	"hayloft/crc"
)

// Scan: the frames that b has from its begin on, each with its place; good: where the first
// that is none begins, and the fault there.
func Scan(t *crc.Table, b []byte) (l []Placed, good int, f api.Fault) {
	if t == nil {
		return nil, 0, api.Nil
	}
	for p, fault := range frames(t, b) {
		if fault != api.OK {
			return l, p.At, fault
		}
		l = append(l, p)
		good = p.At + p.Len
	}
	return l, good, api.OK
}

// frames goes on frame behind frame till b ends, or till a fault, which it tells last.
func frames(t *crc.Table, b []byte) iter.Seq2[Placed, api.Fault] {
	return func(yield func(Placed, api.Fault) bool) {
		for at := 0; at < len(b); {
			r, n, f := Take(t, b[at:])
			if !yield(Placed{At: at, Len: n, R: r}, f) || f != api.OK {
				return
			}
			at += n
		}
	}
}
