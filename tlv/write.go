package tlv

// writer lays forms one behind the other; what it is given is right.
type writer struct {
	b []byte
}

// put fills the length in behind the body, so that no value is measured once more.
func (w *writer) put(v Value) {
	head := len(w.b)
	w.b = append(w.b, byte(v.Tag), 0, 0)
	switch v.Tag {
	case tagNumber:
		w.number(v.N)
	case tagBytes:
		w.b = append(w.b, v.B...)
	case tagList:
		each(v.List, w.put)
	}
	n := len(w.b) - head - headSize
	w.b[head+1], w.b[head+2] = byte(n>>8), byte(n)
}

func (w *writer) number(n uint64) {
	for i := numberSize(n) - 1; i >= 0; i-- {
		w.b = append(w.b, byte(n>>(8*i)))
	}
}

func each(l []Value, do func(Value)) {
	for _, v := range l {
		do(v)
	}
}
