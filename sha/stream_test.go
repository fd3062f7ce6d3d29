package sha_test

import (
	"bytes"
	"crypto/sha256"
	"math/rand"
	"testing"

	"hayloft/api"
	"hayloft/sha"
)

// hold: that a stream has taken just text.
func hold(t *testing.T, what string, s *sha.Stream, text []byte) {
	t.Helper()
	if s.Len() != len(text) {
		t.Errorf("%s: Len %d, not %d", what, s.Len(), len(text))
	}
	if got := s.Sum(); got != api.Hash(sha256.Sum256(text)) {
		t.Errorf("%s: %x, not %x", what, got, sha256.Sum256(text))
	}
}

func TestP302TheExampleInPieces(t *testing.T) {
	s := sha.New().Stream()
	if n := s.Write([]byte("a")); n != 1 {
		t.Errorf("Write: %d, not 1", n)
	}
	if n := s.Write([]byte("bc")); n != 2 {
		t.Errorf("Write: %d, not 2", n)
	}
	if got := sha.Text(s.Sum()); got != "ba7816bf8f01cfea414140de5dae2223b00361a396177a9cb410ff61f20015ad" {
		t.Error(got)
	}
}

func TestP302SumAheadOfAnyWrite(t *testing.T) {
	s := sha.New().Stream()
	hold(t, "new", s, nil)
	s.Write([]byte("abc"))
	hold(t, "behind a write", s, []byte("abc"))
}

func TestP302SumBetweenWrites(t *testing.T) {
	for _, n := range edges {
		for _, m := range edges {
			s := sha.New().Stream()
			b := some(int64(n*1000+m), n+m)
			s.Write(b[:n])
			hold(t, "the first piece", s, b[:n])
			hold(t, "the first piece, asked again", s, b[:n])
			s.Write(b[n:])
			hold(t, "both pieces", s, b)
		}
	}
}

func TestP302WritesOfNoByte(t *testing.T) {
	e := sha.New()
	s := e.Stream()
	for _, n := range []int{0, 1, 62, 1, 64, 0} { // a block is not begun, begun, full
		b := some(int64(n), n)
		s.Write(b)
		was := e.Blocks()
		if s.Write(nil) != 0 || s.Write([]byte{}) != 0 {
			t.Error("more than no byte")
		}
		if e.Blocks() != was {
			t.Error("blocks of no byte")
		}
	}
	var all []byte
	for _, n := range []int{0, 1, 62, 1, 64, 0} {
		all = append(all, some(int64(n), n)...)
	}
	hold(t, "in all", s, all)
}

func TestP302PiecesOfAnySize(t *testing.T) {
	r := rand.New(rand.NewSource(3))
	e := sha.New()
	for i := 0; i < 200; i++ {
		b := some(int64(i), r.Intn(700))
		s := e.Stream()
		for at := 0; at < len(b); {
			n := min(r.Intn(150), len(b)-at)
			if got := s.Write(b[at : at+n]); got != n {
				t.Fatalf("Write: %d, not %d", got, n)
			}
			at += n
			if s.Len() != at {
				t.Fatalf("Len: %d, not %d", s.Len(), at)
			}
		}
		hold(t, "in pieces", s, b)
	}
}

func TestP302ByteByByte(t *testing.T) {
	s := sha.New().Stream()
	b := some(9, 200)
	for i := range b {
		s.Write(b[i : i+1])
		hold(t, "so far", s, b[:i+1])
	}
}

func TestP302TwoStreamsGoTheirOwnWays(t *testing.T) {
	e := sha.New()
	a, b := e.Stream(), e.Stream()
	if a == b {
		t.Fatal("one stream, made twice")
	}
	var wroteA, wroteB []byte
	for i := 0; i < 30; i++ {
		x, y := some(int64(i), i*5), some(int64(-i), 70-i)
		a.Write(x)
		b.Write(y)
		wroteA, wroteB = append(wroteA, x...), append(wroteB, y...)
		e.Sum(x)
	}
	hold(t, "the first", a, wroteA)
	hold(t, "the second", b, wroteB)
	hold(t, "a third", e.Stream(), nil)
}

func TestP302BytesThatAreWrittenOver(t *testing.T) {
	for _, n := range edges {
		s := sha.New().Stream()
		want := some(int64(n), n)
		b := bytes.Clone(want)
		s.Write(b)
		clear(b)
		hold(t, "written over", s, want)
	}
}

func TestP303BlocksOfAStream(t *testing.T) {
	for _, n := range edges {
		for _, m := range edges {
			e := sha.New()
			s := e.Stream()
			s.Write(make([]byte, n))
			first := int64(n / 64)
			if e.Blocks() != first {
				t.Errorf("%d bytes are written: %d, not %d", n, e.Blocks(), first)
			}
			s.Sum()
			left := blocksOf(n) - first
			if e.Blocks() != first+left {
				t.Errorf("%d bytes, and Sum: %d, not %d", n, e.Blocks(), first+left)
			}
			s.Sum()
			s.Len()
			if e.Blocks() != first+2*left {
				t.Errorf("%d bytes, and Sum twice: %d, not %d", n, e.Blocks(), first+2*left)
			}
			s.Write(make([]byte, m))
			second := int64((n+m)/64) - first
			if e.Blocks() != first+2*left+second {
				t.Errorf("%d bytes, and %d: %d, not %d", n, m, e.Blocks(), first+2*left+second)
			}
		}
	}
}

func TestP303BlocksOfTwoStreamsInAll(t *testing.T) {
	e := sha.New()
	a, b := e.Stream(), e.Stream()
	a.Write(make([]byte, 63))
	b.Write(make([]byte, 63))
	if e.Blocks() != 0 {
		t.Errorf("no block is full: %d", e.Blocks())
	}
	a.Write([]byte{1})
	b.Write(make([]byte, 65))
	if e.Blocks() != 3 {
		t.Errorf("three are full: %d", e.Blocks())
	}
	a.Sum()
	b.Sum()
	e.Sum(nil)
	if e.Blocks() != 6 {
		t.Errorf("three are left: %d", e.Blocks())
	}
}

// A stream that no engine made is as one that is nil: nobody would count its blocks.
func TestNilStream(t *testing.T) {
	for what, s := range map[string]*sha.Stream{"nil": nil, "zero": {}} {
		if s.Sum() != (api.Hash{}) || s.Len() != 0 {
			t.Errorf("%s: something is in it", what)
		}
		if s.Write([]byte("abc")) != 0 || s.Write(nil) != 0 {
			t.Errorf("%s: it takes something", what)
		}
		if s.Sum() != (api.Hash{}) || s.Len() != 0 {
			t.Errorf("%s: something is in it behind a write", what)
		}
	}
}
