package segment

import (
	"hayloft/api"
	"hayloft/crc"
	"hayloft/shelf"
	"hayloft/tlv"
)

// fields: values of an entry's list.
const fields = 4

// Put: l as bytes, sealed. BadArg: l is not right.
func Put(t *crc.Table, l []Entry) ([]byte, api.Fault) {
	if t == nil {
		return nil, api.Nil
	}
	if !Right(l) {
		return nil, api.BadArg
	}
	form, f := tlv.Put(value(l))
	if f != api.OK {
		return nil, f
	}
	return t.Seal(form), api.OK
}

// Get: the entries that b was put of. Malformed, Corrupt: b is not sealed; Malformed: what
// is sealed is no right entries' form.
func Get(t *crc.Table, b []byte) ([]Entry, api.Fault) {
	if t == nil {
		return nil, api.Nil
	}
	form, f := t.Open(b)
	if f != api.OK {
		return nil, f
	}
	v, f := tlv.Get(form)
	if f != api.OK {
		return nil, f
	}
	l, ok := entries(v)
	if !ok {
		return nil, api.Malformed
	}
	return l, api.OK
}

// value: what l is in tlv's words; l is right.
func value(l []Entry) tlv.Value {
	v := tlv.Many()
	for _, e := range l {
		v.List = append(v.List, e.value())
	}
	return v
}

func (e Entry) value() tlv.Value {
	return tlv.Many(tlv.Bytes(e.Name[:]), number(e.W.Pack), number(e.W.At), number(e.W.Len))
}

func number(n int) tlv.Value {
	return tlv.Number(uint64(n))
}

// entries: the right ones that v is the value of. Making the value anew tells at once
// whether each part is of its sort, and has no more in it than an entry keeps.
func entries(v tlv.Value) ([]Entry, bool) {
	l := make([]Entry, 0, len(v.List))
	for _, x := range v.List {
		if len(x.List) != fields {
			return nil, false
		}
		l = append(l, entry(x.List))
	}
	if !Right(l) || !tlv.Same(v, value(l)) {
		return nil, false
	}
	return l, true
}

// entry: what the fields tell, whatever is in them.
func entry(l []tlv.Value) Entry {
	e := Entry{W: shelf.Where{Pack: int(l[1].N), At: int(l[2].N), Len: int(l[3].N)}}
	copy(e.Name[:], l[0].B)
	return e
}
