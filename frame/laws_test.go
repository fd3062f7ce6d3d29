package frame_test

import (
	"bytes"
	"math/rand"
	"testing"

	"hayloft/api"
	"hayloft/crc"
	"hayloft/frame"
)

func TestP704FramesAreScannedToTheirRecords(t *testing.T) {
	r, c := rand.New(rand.NewSource(704)), crc.New()
	for range 1000 {
		var b []byte
		var want []frame.Placed
		for range r.Intn(9) {
			x := anyRecord(r)
			one, f := frame.Put(c, x)
			if f != api.OK || len(one) != frame.Size(x) {
				t.Fatalf("Put: %d bytes, fault %d", len(one), f)
			}
			want = append(want, frame.Placed{At: len(b), Len: len(one), R: x})
			b = append(b, one...)
		}
		l, good, f := frame.Scan(c, b)
		if f != api.OK || good != len(b) || !placedAlike(l, want) {
			t.Fatalf("%d frames of %d, good %d of %d, fault %d", len(l), len(want), good, len(b), f)
		}
		for i, p := range l {
			got, f := frame.At(c, b, p.At)
			if f != api.OK || !frame.Same(got, want[i].R) || !frame.Same(got, p.R) {
				t.Fatalf("At of frame %d: fault %d", i, f)
			}
		}
	}
}

// isNone: whether no call takes b's begin for a frame.
func isNone(c *crc.Table, b []byte) bool {
	r, n, f := frame.Take(c, b)
	l, good, g := frame.Scan(c, b)
	at, h := frame.At(c, b, 0)
	return f != api.OK && g == f && h == f && n == 0 && good == 0 && len(l) == 0 && isZero(r) && isZero(at)
}

// turn: b with the bits of mask turned from bit at on, in each byte the lowest first.
func turn(b []byte, at int, mask uint32) []byte {
	x := bytes.Clone(b)
	for i := range 32 {
		if mask>>i&1 == 1 {
			x[(at+i)/8] ^= 1 << ((at + i) % 8)
		}
	}
	return x
}

func TestP704OneBitTurned(t *testing.T) {
	c := crc.New()
	for _, r := range rightOnes()[:20] {
		b := wordsFrame(r)
		step := 1 + len(b)/400
		for at := 3 * 8; at < 8*len(b); at += step {
			if x := turn(b, at, 1); !isNone(c, x) || !isNone(c, laid(x, b)) {
				t.Fatalf("Kind %d, %d bytes, bit %d turned: a frame", r.Kind, len(r.Body), at)
			}
		}
	}
}

func TestP704BitsWithin32Turned(t *testing.T) {
	r, c := rand.New(rand.NewSource(32)), crc.New()
	masks := []uint32{3, 0x80000001, 0xFFFFFFFF, 0xFF, 0x82F63B78, 0x1EDC6F41}
	b := wordsFrame(frame.Record{Kind: 6, Name: hash(6), Body: []byte("hay in a loft")})
	for at := 3 * 8; at+32 <= 8*len(b); at++ {
		for _, m := range append(masks, r.Uint32()|1, r.Uint32()|1) {
			if x := turn(b, at, m); !isNone(c, x) {
				t.Fatalf("bits %08x turned from %d on: a frame", m, at)
			}
		}
	}
	for range 5000 {
		x := anyRecord(r)
		b := wordsFrame(x)
		at := 3*8 + r.Intn(8*(len(b)-3)-31)
		m := r.Uint32()
		if m != 0 && !isNone(c, turn(b, at, m)) {
			t.Fatalf("bits %08x turned from %d on: a frame", m, at)
		}
	}
}

func TestP704AtHangsOnNothingAhead(t *testing.T) {
	r, c := rand.New(rand.NewSource(7040)), crc.New()
	tails := [][]byte{
		wordsFrame(frame.Record{Kind: 8, Name: hash(8), Body: []byte("tail")}),
		sealed(number(1).form()),
		{3, 0, 1},
		turn(wordsFrame(frame.Record{Kind: 8}), 100, 5),
	}
	for range 2000 {
		ahead := make([]byte, r.Intn(200))
		r.Read(ahead)
		if r.Intn(2) == 0 {
			ahead = laid(wordsFrame(anyRecord(r)), ahead)
		}
		for i, b := range tails {
			want, _, wantF := frame.Take(c, b)
			if got, f := frame.At(c, laid(ahead, b), len(ahead)); f != wantF || !alike(got, want) {
				t.Fatalf("tail %d behind %d bytes: %v, fault %d, not %d", i, len(ahead), got, f, wantF)
			}
		}
	}
}

func FuzzTake(f *testing.F) {
	f.Add(wordsFrame(frame.Record{Kind: 1, Body: []byte("x")}))
	f.Add(sealed(number(1).form()))
	f.Add([]byte{3, 0, 0})
	f.Fuzz(func(t *testing.T, b []byte) {
		takesAs(t, "as it is", b)
		takesAs(t, "sealed", sealed(b))
		scansAs(t, "as it is", b)
		r, n, fault := frame.Take(crc.New(), b)
		if fault != api.OK {
			return
		}
		again, fault := frame.Put(crc.New(), r)
		if fault != api.OK || !bytes.Equal(again, b[:n]) {
			t.Errorf("% x is taken as %v, whose frame is % x", b[:n], r, again)
		}
	})
}
