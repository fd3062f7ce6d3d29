package frame_test

import (
	"bytes"
	"math"
	"math/rand"
	"testing"

	"hayloft/api"
	"hayloft/crc"
	"hayloft/frame"
)

// scansAs holds Scan of b against the chapter's words, and answers what is told.
func scansAs(t *testing.T, what string, b []byte) ([]frame.Placed, int, api.Fault) {
	t.Helper()
	want, wantGood, wantF := wordsScan(b)
	l, good, f := frame.Scan(crc.New(), b)
	if !placedAlike(l, want) || good != wantGood || f != wantF {
		t.Errorf("%s: %d frames, good %d, fault %d; not %d frames, good %d, fault %d",
			what, len(l), good, f, len(want), wantGood, wantF)
	}
	return l, good, f
}

// scansTo asks for so many frames, so many bytes and a fault by name.
func scansTo(t *testing.T, what string, b []byte, frames, good int, f api.Fault) {
	t.Helper()
	l, gotGood, gotF := scansAs(t, what, b)
	if len(l) != frames || gotGood != good || gotF != f {
		t.Errorf("%s: %d frames, good %d, fault %d; not %d, %d, %d", what, len(l), gotGood, gotF, frames, good, f)
	}
}

// three: frames of three records, each of another length.
func three() [][]byte {
	return [][]byte{
		wordsFrame(frame.Record{Kind: 1, Name: hash(1), Body: []byte("first")}),
		wordsFrame(frame.Record{Kind: 9, Name: hash(2)}),
		wordsFrame(frame.Record{Kind: 4, Name: hash(3), Body: make([]byte, 300)}),
	}
}

func TestP703ScanOfNoByte(t *testing.T) {
	scansTo(t, "nil", nil, 0, 0, api.OK)
	scansTo(t, "empty", []byte{}, 0, 0, api.OK)
}

func TestP703ScanTellsPlaces(t *testing.T) {
	l := three()
	scansTo(t, "one", l[0], 1, len(l[0]), api.OK)
	b := laid(l...)
	scansTo(t, "three", b, 3, len(b), api.OK)
	got, _, _ := frame.Scan(crc.New(), b)
	at := 0
	for i, p := range got {
		if p.At != at || p.Len != len(l[i]) || p.Len != frame.Size(p.R) {
			t.Errorf("frame %d at %d, of %d bytes; not at %d, of %d", i, p.At, p.Len, at, len(l[i]))
		}
		at += len(l[i])
	}
	if len(got) != 3 || got[0].R.Kind != 1 || string(got[0].R.Body) != "first" || got[1].R.Name != hash(2) || len(got[2].R.Body) != 300 {
		t.Errorf("other records: %v", got)
	}
}

func TestP703ScanEndsAtTheFirstThatIsNone(t *testing.T) {
	l := three()
	b := laid(l...)
	none := sealed(text([]byte("none")).form())
	turned := laid(none[:len(none)-1], []byte{none[len(none)-1] ^ 1})
	for _, c := range []struct {
		what   string
		b      []byte
		frames int
		good   int
		f      api.Fault
	}{
		{"a byte behind", laid(b, []byte{9}), 3, len(b), api.Early},
		{"a head behind", laid(b, []byte{3, 0, 0}), 3, len(b), api.Early},
		{"zeros behind", laid(b, make([]byte, 100)), 3, len(b), api.Early},
		{"no record behind", laid(b, none), 3, len(b), api.Malformed},
		{"turned bytes behind", laid(b, turned), 3, len(b), api.Corrupt},
		{"no record ahead", laid(none, b), 0, 0, api.Malformed},
		{"turned bytes ahead", laid(turned, b), 0, 0, api.Corrupt},
		{"a byte ahead", laid([]byte{9}, b), 0, 0, api.Early},
		{"no record between", laid(l[0], none, l[1]), 1, len(l[0]), api.Malformed},
		{"turned bytes between", laid(l[0], l[1], turned, l[2]), 2, len(l[0]) + len(l[1]), api.Corrupt},
		{"a byte between", laid(l[0], []byte{0}, l[1]), 1, len(l[0]), api.Early},
		{"none alone", none, 0, 0, api.Malformed},
		{"a byte alone", []byte{3}, 0, 0, api.Early},
	} {
		scansTo(t, c.what, c.b, c.frames, c.good, c.f)
	}
}

func TestP703ScanOfCutBytes(t *testing.T) {
	l := three()
	b := laid(l...)
	ends := []int{0, len(l[0]), len(l[0]) + len(l[1]), len(b)}
	for n := 0; n <= len(b); n++ {
		whole := 0
		for whole < 3 && ends[whole+1] <= n {
			whole++
		}
		f := api.Early
		if ends[whole] == n {
			f = api.OK
		}
		scansTo(t, "cut", b[:n], whole, ends[whole], f)
	}
}

func TestP703ScanWithATurnedFrameInTheMiddle(t *testing.T) {
	l := three()
	b := laid(l...)
	for i := len(l[0]) + 3; i < len(l[0])+len(l[1]); i++ {
		for bit := range 8 {
			x := bytes.Clone(b)
			x[i] ^= 1 << bit
			got, good, f := scansAs(t, "turned", x)
			if len(got) != 1 || good != len(l[0]) || f != api.Corrupt && f != api.Early {
				t.Fatalf("byte %d, bit %d turned: %d frames, good %d, fault %d", i, bit, len(got), good, f)
			}
		}
	}
	x := bytes.Clone(b)
	x[len(l[0])+20] ^= 4 // in a Name: the form is still one
	scansTo(t, "a Name turned", x, 1, len(l[0]), api.Corrupt)
	x = bytes.Clone(b)
	x[len(l[0])+3] ^= 8 // the tag of Kind: the form is none
	scansTo(t, "a tag turned", x, 1, len(l[0]), api.Early)
}

func TestP703ScanOfManyFrames(t *testing.T) {
	one := wordsFrame(frame.Record{Kind: 3, Name: hash(5)})
	n := 40000
	b := laid(bytes.Repeat(one, n), []byte{3})
	l, good, f := frame.Scan(crc.New(), b)
	if len(l) != n || good != n*len(one) || f != api.Early || l[n-1].At != (n-1)*len(one) {
		t.Errorf("%d frames, good %d, fault %d", len(l), good, f)
	}
}

func TestP703ScanOfANilTable(t *testing.T) {
	for _, b := range [][]byte{nil, {9}, laid(three()...)} {
		if l, good, f := frame.Scan(nil, b); l != nil || good != 0 || f != api.Nil {
			t.Errorf("of %d bytes: %d frames, good %d, fault %d", len(b), len(l), good, f)
		}
	}
}

func TestP703AtEachPlace(t *testing.T) {
	c := crc.New()
	none := sealed(text([]byte("none")).form())
	for _, b := range [][]byte{laid(three()...), laid(three()[0], none, three()[1]), laid(three()[1], []byte{3, 0})} {
		for at := range b {
			want, _, wantF := wordsTake(b[at:])
			r, f := frame.At(c, b, at)
			if f != wantF || !alike(r, want) || f != api.OK && !isZero(r) {
				t.Errorf("at %d of %d: %v, fault %d, not %d", at, len(b), r, f, wantF)
			}
		}
	}
}

func TestP703AtTheBegins(t *testing.T) {
	c, l := crc.New(), three()
	b := laid(l...)
	for _, x := range []struct{ at, kind int }{{0, 1}, {len(l[0]), 9}, {len(l[0]) + len(l[1]), 4}} {
		if r, f := frame.At(c, b, x.at); f != api.OK || r.Kind != x.kind {
			t.Errorf("at %d: %v, fault %d", x.at, r, f)
		}
	}
	for _, at := range []int{1, 3, len(l[0]) - 1, len(l[0]) + 1, len(b) - 4, len(b) - 1} {
		if r, f := frame.At(c, b, at); f == api.OK || f == api.BadArg || !isZero(r) {
			t.Errorf("within a frame, at %d: %v, fault %d", at, r, f)
		}
	}
	if _, f := frame.At(c, b, len(b)-1); f != api.Early {
		t.Errorf("at the last byte: fault %d", f)
	}
}

func TestP703AtNoPlace(t *testing.T) {
	b := laid(three()...)
	roomy := append(make([]byte, 0, 2*len(b)), b...)
	copy(roomy[len(b):2*len(b)], b)
	for _, at := range []int{-1, -len(b), len(b), len(b) + 1, 2 * len(b), math.MaxInt, math.MinInt, math.MaxInt - 1} {
		for _, x := range [][]byte{b, roomy} {
			if r, f := frame.At(crc.New(), x, at); f != api.BadArg || !isZero(r) {
				t.Errorf("at %d of %d: %v, fault %d", at, len(x), r, f)
			}
		}
	}
	for _, at := range []int{-1, 0, 1} {
		if r, f := frame.At(crc.New(), nil, at); f != api.BadArg || !isZero(r) {
			t.Errorf("at %d of no byte: %v, fault %d", at, r, f)
		}
	}
}

func TestP703AtOfANilTable(t *testing.T) {
	b := laid(three()...)
	for _, at := range []int{-1, 0, 1, len(b), math.MaxInt, math.MinInt} {
		for _, x := range [][]byte{nil, b} {
			if r, f := frame.At(nil, x, at); f != api.Nil || !isZero(r) {
				t.Errorf("at %d of %d: %v, fault %d", at, len(x), r, f)
			}
		}
	}
}

func TestP703ScanOfAnyBytes(t *testing.T) {
	r := rand.New(rand.NewSource(703))
	for range 2000 {
		var b []byte
		for range r.Intn(6) {
			b = laid(b, wordsFrame(anyRecord(r)))
		}
		for range r.Intn(3) {
			if len(b) > 0 {
				b[r.Intn(len(b))] ^= byte(1 << r.Intn(8))
			}
		}
		scansAs(t, "any frames", b[:len(b)-r.Intn(len(b)+1)*r.Intn(2)])
	}
}
