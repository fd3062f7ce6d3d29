package frame_test

import (
	"bytes"
	"testing"

	"hayloft/api"
	"hayloft/crc"
	"hayloft/frame"
)

// roomy: b with spare room behind it that is filled, so that a write into it shows.
func roomy(b []byte) []byte {
	r := append(bytes.Clone(b), bytes.Repeat([]byte{0xEE}, 32)...)
	return r[:len(b)]
}

func spareIsWhole(b []byte) bool {
	return bytes.Equal(b[len(b):len(b)+32], bytes.Repeat([]byte{0xEE}, 32))
}

// scribble writes into all of b, its spare room too.
func scribble(b []byte) {
	b = b[:cap(b)]
	for i := range b {
		b[i] ^= 0xFF
	}
}

func someRecord() frame.Record {
	return frame.Record{Kind: 2, Name: hash(11), Body: []byte("hay in a loft")}
}

func TestPutHandsOutNewMemory(t *testing.T) {
	c, r := crc.New(), someRecord()
	r.Body = roomy(r.Body)
	b, _ := frame.Put(c, r)
	scribble(b)
	frame.Size(r)
	frame.Right(r)
	frame.Same(r, r)
	if !alike(r, someRecord()) || !spareIsWhole(r.Body) {
		t.Error("the record, or its spare room, has changed")
	}
	b, _ = frame.Put(c, r)
	other, _ := frame.Put(c, r)
	scribble(r.Body)
	scribble(other)
	if !bytes.Equal(b, wordsFrame(someRecord())) {
		t.Error("the frame has changed with what was handed in, or with another one")
	}
}

func TestTakeAndAtHandOutNewMemory(t *testing.T) {
	c := crc.New()
	whole := laid(wordsFrame(someRecord()), []byte("rest"))
	for what, take := range map[string]func([]byte) frame.Record{
		"Take": func(b []byte) frame.Record { r, _, _ := frame.Take(c, b); return r },
		"At":   func(b []byte) frame.Record { r, _ := frame.At(c, b, 0); return r },
	} {
		in := roomy(whole)
		r := take(in)
		scribble(r.Body)
		if !bytes.Equal(in, whole) || !spareIsWhole(in) {
			t.Errorf("%s: what was handed in has changed", what)
		}
		r = take(in)
		other := take(in)
		scribble(in)
		scribble(other.Body)
		if !alike(r, someRecord()) {
			t.Errorf("%s: the record has changed with what was handed in, or with another one", what)
		}
	}
}

func TestScanHandsOutNewMemory(t *testing.T) {
	c := crc.New()
	whole := laid(bytes.Repeat(wordsFrame(someRecord()), 5), []byte{9})
	want, _, _ := wordsScan(whole)
	in := roomy(whole)
	l, _, _ := frame.Scan(c, in)
	for i := range l {
		scribble(l[i].R.Body)
		for k := i + 1; k < len(l); k++ {
			if !alike(l[k].R, someRecord()) {
				t.Errorf("frames %d and %d share memory", i, k)
			}
		}
	}
	for i := range l[:cap(l)] {
		l[:cap(l)][i] = frame.Placed{At: 77}
	}
	if !bytes.Equal(in, whole) || !spareIsWhole(in) {
		t.Error("what was handed in has changed")
	}
	l, good, f := frame.Scan(c, in)
	scribble(in)
	if !placedAlike(l, want) || good != len(whole)-1 || f != api.Early {
		t.Error("what is told has changed with what was handed in, or with what was told ahead")
	}
}
