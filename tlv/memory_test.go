package tlv_test

import (
	"bytes"
	"testing"

	"hayloft/api"
	"hayloft/tlv"
)

// roomy: b with spare room behind it that is filled, so that a write into it shows.
func roomy(b []byte) []byte {
	r := append(bytes.Clone(b), bytes.Repeat([]byte{0xEE}, 32)...)
	return r[:len(b)]
}

func spareIsWhole(b []byte) bool {
	return bytes.Equal(b[len(b):len(b)+32], bytes.Repeat([]byte{0xEE}, 32))
}

// scribble writes into all of b, its spare room too.
func scribble(b []byte) {
	b = b[:cap(b)]
	for i := range b {
		b[i] ^= 0xFF
	}
}

func scribbleValue(v *tlv.Value) {
	scribble(v.B)
	l := v.List[:cap(v.List)]
	for i := range l {
		scribbleValue(&l[i])
		l[i] = tlv.Value{Tag: 77, N: 77}
	}
}

// several: a value with each kind of memory in it.
func several() tlv.Value {
	in := tlv.Value{Tag: 3, List: []tlv.Value{{Tag: 2, B: []byte("in")}, {Tag: 1, N: 300}}}
	return tlv.Value{Tag: 3, List: []tlv.Value{{Tag: 2, B: []byte("ab")}, in, {Tag: 2, B: []byte("cd")}}}
}

func TestPutHandsOutNewMemory(t *testing.T) {
	v := several()
	first, _ := tlv.Put(v)
	want := bytes.Clone(first)
	scribble(first)
	if !exact(v, several()) {
		t.Error("the value has changed")
	}
	if again, _ := tlv.Put(v); !bytes.Equal(again, want) {
		t.Error("another form the second time")
	}
	one := tlv.Value{Tag: 2, B: roomy([]byte("abc"))}
	b, _ := tlv.Put(one)
	scribble(b)
	if string(one.B) != "abc" || !spareIsWhole(one.B) {
		t.Error("bytes, or their spare room, have changed")
	}
}

func TestTakeHandsOutNewMemory(t *testing.T) {
	form, _ := tlv.Put(several())
	in := roomy(append(form, "rest"...))
	want := bytes.Clone(in)
	v, rest, f := tlv.Take(in)
	if f != api.OK || string(rest) != "rest" {
		t.Fatalf("fault %d, rest %q", f, rest)
	}
	scribble(rest)
	if !exact(v, several()) {
		t.Error("what is behind shares memory with the value")
	}
	scribble(v.List[0].B)
	if string(v.List[2].B) != "cd" || string(v.List[1].List[0].B) != "in" {
		t.Error("bytes of one value share memory")
	}
	scribbleValue(&v)
	if !bytes.Equal(in, want) || !spareIsWhole(in) {
		t.Error("what was handed in has changed")
	}
	w, tail, _ := tlv.Take(in)
	scribble(in)
	if !exact(w, several()) || string(tail) != "rest" {
		t.Error("what was handed out has changed with what was handed in")
	}
}

func TestGetHandsOutNewMemory(t *testing.T) {
	form, _ := tlv.Put(several())
	in := roomy(form)
	v, _ := tlv.Get(in)
	scribble(in)
	if !exact(v, several()) {
		t.Error("the value has changed with the bytes")
	}
	in = roomy(form)
	v, _ = tlv.Get(in)
	scribbleValue(&v)
	if !bytes.Equal(in, form) || !spareIsWhole(in) {
		t.Error("the bytes have changed with the value")
	}
}

func TestMakersHandOutNewMemory(t *testing.T) {
	b := roomy([]byte("abc"))
	v := tlv.Bytes(b)
	scribble(v.B)
	if string(b) != "abc" || !spareIsWhole(b) {
		t.Error("Bytes: what was handed in has changed")
	}
	v = tlv.Bytes(b)
	scribble(b)
	if string(v.B) != "abc" {
		t.Error("Bytes: what was handed in is kept")
	}

	l := several().List
	v = tlv.Many(l...)
	scribbleValue(&v)
	if !exact(tlv.Value{Tag: 3, List: l}, several()) {
		t.Error("Many: what was handed in has changed")
	}
	v = tlv.Many(l...)
	for i := range l {
		scribbleValue(&l[i])
	}
	if !exact(v, several()) {
		t.Error("Many: what was handed in is kept")
	}
	x := tlv.Value{Tag: 2, B: []byte("x")}
	v = tlv.Many(x, x)
	scribble(v.List[0].B)
	if string(v.List[1].B) != "x" || string(x.B) != "x" {
		t.Error("Many: two values of one list share memory")
	}
}

func TestReadersLeaveTheirArguments(t *testing.T) {
	a, b := several(), several()
	tlv.Right(a)
	tlv.Size(a)
	tlv.Same(a, b)
	if !exact(a, several()) || !exact(b, several()) {
		t.Error("a value has changed")
	}
}
