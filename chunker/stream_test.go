package chunker_test

import (
	"bytes"
	"math/rand"
	"testing"

	"hayloft/api"
	"hayloft/chunker"
)

func open(t *testing.T, r chunker.Rule) *chunker.Stream {
	t.Helper()
	s, f := chunker.Open(r)
	if s == nil || f != api.OK {
		t.Fatalf("%+v: Open %v, %v", r, s, f)
	}
	return s
}

// write: what Write answers, which is no fault.
func write(t *testing.T, s *chunker.Stream, b []byte) [][]byte {
	t.Helper()
	l, f := s.Write(b)
	if f != api.OK {
		t.Fatalf("Write: %v", f)
	}
	return l
}

// finish: what Close answers, which is no fault.
func finish(t *testing.T, s *chunker.Stream) []byte {
	t.Helper()
	b, f := s.Close()
	if f != api.OK {
		t.Fatalf("Close: %v", f)
	}
	return b
}

// wordsSure: the chunks that are sure by the chapter's words, and how many bytes then wait.
func wordsSure(r chunker.Rule, b []byte) ([][]byte, int) {
	l := wordsSplit(r, b)
	if len(l) == 0 {
		return nil, 0
	}
	last := l[len(l)-1]
	if len(last) == r.Max || place(r, last) {
		return l, 0
	}
	return l[:len(l)-1], len(last)
}

func TestP503OpenWrong(t *testing.T) {
	for what, r := range wrongRules() {
		if s, f := chunker.Open(r); s != nil || f != api.BadArg {
			t.Errorf("%s: %v, %v", what, s, f)
		}
	}
}

// parts: ways to give n bytes, each a list of sizes.
func parts(n int) [][]int {
	var ones, sevens, some []int
	for range n {
		ones = append(ones, 1)
	}
	for left := n; left > 0; left -= 7 {
		sevens = append(sevens, min(left, 7))
	}
	r := rand.New(rand.NewSource(int64(n)))
	for left := n; left > 0; {
		k := min(left, r.Intn(100))
		some = append(some, k)
		left -= k
	}
	return [][]int{{n}, {0, n, 0}, ones, sevens, some}
}

func TestP503SureChunksHoweverBytesCome(t *testing.T) {
	for _, r := range rightRules() {
		b := some(21, 260)
		for _, sizes := range parts(len(b)) {
			s := open(t, r)
			var got [][]byte
			given := 0
			for _, n := range sizes {
				before := s.Left()
				l := write(t, s, b[given:given+n])
				given += n
				got = append(got, l...)
				want, wait := wordsSure(r, b[:given])
				if !same(got, want) || s.Left() != wait {
					t.Fatalf("%+v, %d bytes given: %d chunks, not %d; %d wait, not %d", r, given, len(got), len(want), s.Left(), wait)
				}
				if before+n != s.Left()+len(bytes.Join(l, nil)) {
					t.Fatalf("%+v: bytes come or go", r)
				}
			}
			if left := finish(t, s); len(left) > 0 {
				got = append(got, left)
			}
			if !same(got, wordsSplit(r, b)) {
				t.Errorf("%+v: a stream's chunks are not Split's", r)
			}
		}
	}
}

func TestP504StreamIsSplit(t *testing.T) {
	for seed := range int64(30) {
		r := rightRules()[int(seed)%len(rightRules())]
		b := some(seed, int(seed)*97)
		want, _ := chunker.Split(r, b)
		for _, sizes := range parts(len(b)) {
			s := open(t, r)
			var got [][]byte
			rest := b
			for _, n := range sizes {
				got = append(got, write(t, s, rest[:n])...)
				rest = rest[n:]
			}
			if left := finish(t, s); len(left) > 0 {
				got = append(got, left)
			}
			if !same(got, want) || !bytes.Equal(chunker.Join(got), b) {
				t.Errorf("%+v, %d bytes in %d parts: other chunks", r, len(b), len(sizes))
			}
		}
	}
}

func TestP503NoByteAtAll(t *testing.T) {
	for _, r := range rightRules() {
		s := open(t, r)
		if s.Left() != 0 {
			t.Errorf("%+v: %d wait in a new one", r, s.Left())
		}
		if left := finish(t, s); len(left) != 0 {
			t.Errorf("%+v: %x is left of none", r, left)
		}
		s = open(t, r)
		for _, b := range [][]byte{nil, {}} {
			if l := write(t, s, b); len(l) != 0 || s.Left() != 0 {
				t.Errorf("%+v: %x of no byte", r, l)
			}
		}
		if left := finish(t, s); len(left) != 0 {
			t.Errorf("%+v: %x is left of none", r, left)
		}
	}
}

func TestP503SureAsTheLastByteComes(t *testing.T) {
	r := chunker.Usual()
	for n := r.Min; n <= r.Max; n++ {
		b := endingAt(t, r, n)[:n]
		s := open(t, r)
		if l := write(t, s, b[:n-1]); len(l) != 0 || s.Left() != n-1 {
			t.Errorf("%d of %d bytes: %d chunks, %d wait", n-1, n, len(l), s.Left())
		}
		if l := write(t, s, b[n-1:]); len(l) != 1 || !bytes.Equal(l[0], b) || s.Left() != 0 {
			t.Errorf("all %d bytes: %x, %d wait", n, l, s.Left())
		}
		if left := finish(t, s); len(left) != 0 {
			t.Errorf("all %d bytes: %x is left", n, left)
		}
		s = open(t, r)
		if l := write(t, s, b); len(l) != 1 || !bytes.Equal(l[0], b) || s.Left() != 0 {
			t.Errorf("%d bytes at once: %x, %d wait", n, l, s.Left())
		}
	}
}

func TestP503NotSure(t *testing.T) {
	r := chunker.Usual()
	b := plain(t, r)
	for n := range r.Max {
		s := open(t, r)
		if l := write(t, s, b[:n]); len(l) != 0 || s.Left() != n {
			t.Errorf("%d bytes: %d chunks, %d wait", n, len(l), s.Left())
		}
		// That Min bytes are a chunk of their own, if all, does not make them sure.
		if l := write(t, s, nil); len(l) != 0 || s.Left() != n {
			t.Errorf("%d bytes and none: %d chunks, %d wait", n, len(l), s.Left())
		}
		if left := finish(t, s); !bytes.Equal(left, b[:n]) || s.Left() != 0 {
			t.Errorf("%d bytes: %x is left, %d wait", n, left, s.Left())
		}
	}
	s := open(t, r)
	write(t, s, b[:r.Max-1])
	if l := write(t, s, b[r.Max-1:r.Max]); len(l) != 1 || len(l[0]) != r.Max || s.Left() != 0 {
		t.Errorf("just Max bytes: %x", l)
	}
}

func TestP503APlaceAheadOfMinIsNoEnd(t *testing.T) {
	r := rule(8, 8, 64)
	for seed := range int64(10000) {
		b := some(seed, 7)
		low := r
		low.Min = 1
		if !place(low, b) {
			continue
		}
		s := open(t, r)
		if l := write(t, s, b); len(l) != 0 || s.Left() != 7 {
			t.Errorf("%d chunks, %d wait", len(l), s.Left())
		}
		if chunker.Cut(r, append(b, 1, 2, 3)) < 8 {
			t.Error("a chunk ends ahead of the Min-th byte")
		}
		return
	}
	t.Fatal("no such bytes")
}

func TestP503Closed(t *testing.T) {
	for _, n := range []int{0, 5, 200} {
		s := open(t, chunker.Usual())
		write(t, s, some(1, n))
		finish(t, s)
		for range 2 {
			for _, b := range [][]byte{nil, some(2, 3), some(2, 300)} {
				if l, f := s.Write(b); l != nil || f != api.Closed {
					t.Errorf("Write: %x, %v", l, f)
				}
			}
			if b, f := s.Close(); b != nil || f != api.Closed {
				t.Errorf("Close: %x, %v", b, f)
			}
			if s.Left() != 0 {
				t.Errorf("Left: %d", s.Left())
			}
		}
	}
}

func TestP503Nil(t *testing.T) {
	var none *chunker.Stream
	for _, s := range []*chunker.Stream{none, new(chunker.Stream)} {
		for range 2 {
			for _, b := range [][]byte{nil, some(2, 300)} {
				if l, f := s.Write(b); l != nil || f != api.Nil {
					t.Errorf("Write: %x, %v", l, f)
				}
			}
			if b, f := s.Close(); b != nil || f != api.Nil {
				t.Errorf("Close: %x, %v", b, f)
			}
			if s.Left() != 0 {
				t.Errorf("Left: %d", s.Left())
			}
		}
	}
}

func TestP503KeepsNothingThatIsHandedIn(t *testing.T) {
	r := chunker.Usual()
	b := some(31, 600)
	s := open(t, r)
	var got [][]byte
	for at := 0; at < len(b); at += 11 {
		in, full := roomy(b[at:min(at+11, len(b))])
		was := bytes.Clone(full)
		got = append(got, write(t, s, in)...)
		if !bytes.Equal(full, was) {
			t.Fatal("Write changes what is handed in")
		}
		clear(full)
	}
	got = append(got, finish(t, s))
	if !same(got, wordsSplit(r, b)) {
		t.Error("what is written later into what was handed in is seen")
	}
}

func TestP503HandsOutNewMemory(t *testing.T) {
	for _, r := range []chunker.Rule{chunker.Usual(), rule(1, 1, 1), rule(4, 4, 4), rule(1, 64, 4096)} {
		b := some(31, 601)
		s := open(t, r)
		var got [][]byte
		for at := 0; at < len(b); at += 150 {
			in := bytes.Clone(b[at:min(at+150, len(b))])
			was := bytes.Clone(in)
			l := write(t, s, in)
			for _, c := range l {
				got = append(got, bytes.Clone(c))
			}
			if !apart(l) {
				t.Errorf("%+v: chunks of one Write share memory", r)
			}
			wait := s.Left()
			scribble(l)
			if !bytes.Equal(in, was) || s.Left() != wait {
				t.Errorf("%+v: chunks share memory with what was handed in", r)
			}
		}
		if left := finish(t, s); len(left) > 0 {
			got = append(got, left)
		}
		if !same(got, wordsSplit(r, b)) {
			t.Errorf("%+v: the stream sees what is written into its chunks", r)
		}
	}
}

func TestP503StreamsShareNothing(t *testing.T) {
	r := chunker.Usual()
	a, b := some(1, 500), some(2, 500)
	s, u := open(t, r), open(t, r)
	var l, m [][]byte
	for i := range a {
		l = append(l, write(t, s, a[i:i+1])...)
		m = append(m, write(t, u, b[i:i+1])...)
		chunker.Split(r, a[:i])
	}
	l, m = append(l, finish(t, s)), append(m, finish(t, u))
	if !same(l, wordsSplit(r, a)) || !same(m, wordsSplit(r, b)) {
		t.Error("one stream sees another's bytes")
	}
}
