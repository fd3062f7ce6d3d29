package crc_test

import (
	"bytes"
	"math/rand"
	"testing"

	"hayloft/api"
	"hayloft/crc"
)

// turned: b with the bits of pattern turned, from the bit at on, in each byte the lowest first;
// nil: a bit to turn would stand behind b.
func turned(b []byte, at int, pattern uint32) []byte {
	out := bytes.Clone(b)
	for i := 0; i < 32; i++ {
		if pattern>>i&1 == 0 {
			continue
		}
		k := at + i
		if k >= 8*len(out) {
			return nil
		}
		out[k/8] ^= 1 << (k % 8)
	}
	return out
}

// mustBeCorrupt: wherever the bits of pattern are turned in sealed bytes.
func mustBeCorrupt(t *testing.T, c *crc.Table, sealed []byte, pattern uint32) {
	t.Helper()
	for at := 0; at < 8*len(sealed); at++ {
		x := turned(sealed, at, pattern)
		if x == nil {
			continue
		}
		if got, f := c.Open(x); f != api.Corrupt || got != nil {
			t.Fatalf("%d bytes, from the bit %d on %08X turned: % X, %v", len(sealed), at, pattern, got, f)
		}
	}
}

func TestP205BitsWithinAByteAndTwo(t *testing.T) {
	c := crc.New()
	for _, n := range []int{0, 1, 2, 3, 4, 5, 8, 13} {
		sealed := c.Seal(some(int64(n), n))
		for pattern := uint32(1); pattern < 1<<9; pattern++ {
			mustBeCorrupt(t, c, sealed, pattern)
		}
	}
}

func TestP205TwoAndThreeBitsWithin32(t *testing.T) {
	c := crc.New()
	for _, n := range []int{0, 1, 4, 9} {
		sealed := c.Seal(some(int64(n)+40, n))
		for i := 1; i < 32; i++ {
			for k := i; k < 32; k++ {
				mustBeCorrupt(t, c, sealed, 1|1<<i|1<<k)
			}
		}
	}
}

func TestP205ManyBitsWithin32(t *testing.T) {
	c := crc.New()
	r := rand.New(rand.NewSource(5))
	patterns := []uint32{1<<32 - 1, 1<<31 | 1, 0x82F63B78, 0x05EC76F1, 0x1EDC6F41, 0xAAAAAAAA, 0x55555555, 0xFFFF0000, 0x000FFFF0}
	for len(patterns) < 400 {
		patterns = append(patterns, r.Uint32()|1)
	}
	for _, n := range []int{0, 1, 3, 6, 17, 64} {
		sealed := c.Seal(some(int64(n)+80, n))
		for _, p := range patterns {
			mustBeCorrupt(t, c, sealed, p)
		}
	}
}

// TestP205OverTheSeam: bits of the bytes and bits of their sum are turned at once.
func TestP205OverTheSeam(t *testing.T) {
	c := crc.New()
	r := rand.New(rand.NewSource(6))
	for _, n := range []int{1, 2, 4, 30, 2000} {
		sealed := c.Seal(some(int64(n)+120, n))
		for at := max(0, 8*n-31); at < 8*n; at++ {
			ahead := 8*n - at
			for i := 0; i < 300; i++ {
				pattern := r.Uint32() | 1 | 1<<ahead
				if got, f := c.Open(turned(sealed, at, pattern)); f != api.Corrupt || got != nil {
					t.Fatalf("%d bytes, from the bit %d on %08X turned: % X, %v", n, at, pattern, got, f)
				}
			}
		}
	}
}

// TestP205MoreThan32IsNotPromised: the divisor itself, 33 bits, turns sealed bytes into others
// that are sealed as well: where that is not so, the sum is another one than the chapter's.
func TestP205MoreThan32IsNotPromised(t *testing.T) {
	c := crc.New()
	sealed := c.Seal(make([]byte, 12))
	x := turned(turned(sealed, 3, 1), 4, 0x82F63B78)
	if got, f := c.Open(x); f != api.OK || !bytes.Equal(got, x[:12]) || bytes.Equal(x, sealed) {
		t.Errorf("% X: % X, %v", x, got, f)
	}
}

func TestNothingHandedInIsChangedOrKept(t *testing.T) {
	c := crc.New()
	room := []byte("123456789........")
	b := room[:9]
	before := bytes.Clone(room)
	c.Sum(b)
	c.More(7, b)
	sealed := c.Seal(b)
	if !bytes.Equal(room, before) {
		t.Fatalf("what came in was changed: %q", room)
	}
	b[0] = 'x'
	if sealed[0] != '1' {
		t.Error("what was sealed shares what came in")
	}
	sealed = append(c.Seal(before[:9]), "...."...)
	kept := bytes.Clone(sealed)
	got, f := c.Open(sealed[:13])
	if f != api.OK {
		t.Fatal(f)
	}
	for i := range got[:cap(got)] {
		got[:cap(got)][i] = 'y'
	}
	if !bytes.Equal(sealed, kept) {
		t.Errorf("what was opened shares what came in: %q", sealed)
	}
	got, _ = c.Open(sealed[:13])
	sealed[0] = 'z'
	if got[0] != '1' {
		t.Error("what came in is seen in what was opened")
	}
}

func TestEmptyAnswersShareNothing(t *testing.T) {
	c := crc.New()
	in := []byte{0, 0, 0, 0, 9}
	got, f := c.Open(in[:4])
	if f != api.OK {
		t.Fatal(f)
	}
	_ = append(got, 1, 2, 3)
	if !bytes.Equal(in, []byte{0, 0, 0, 0, 9}) {
		t.Errorf("an empty answer has what came in as its spare room: % X", in)
	}
	a, b := c.Seal([]byte("a")), c.Seal([]byte("a"))
	a[0] = 'b'
	if b[0] != 'a' {
		t.Error("two answers share memory")
	}
}
