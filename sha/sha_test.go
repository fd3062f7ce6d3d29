package sha_test

import (
	"bytes"
	"crypto/sha256"
	"math/rand"
	"sync"
	"testing"

	"hayloft/api"
	"hayloft/sha"
)

// edges: how many bytes texts have where something changes: the tail fits a block just, or just not; a block is full.
var edges = []int{0, 1, 2, 3, 54, 55, 56, 57, 62, 63, 64, 65, 118, 119, 120, 121, 127, 128, 129, 183, 184, 191, 192, 193}

// some: n bytes that hang on seed alone.
func some(seed int64, n int) []byte {
	b := make([]byte, n)
	rand.New(rand.NewSource(seed)).Read(b)
	return b
}

// blocksOf: how many blocks a text of n bytes has, with the bit 1, bits 0, and the length behind it.
func blocksOf(n int) int64 { return int64((n + 1 + 8 + 63) / 64) }

func TestP301SumOfTheExample(t *testing.T) {
	want := api.Hash{
		0xba, 0x78, 0x16, 0xbf, 0x8f, 0x01, 0xcf, 0xea, 0x41, 0x41, 0x40, 0xde, 0x5d, 0xae, 0x22, 0x23,
		0xb0, 0x03, 0x61, 0xa3, 0x96, 0x17, 0x7a, 0x9c, 0xb4, 0x10, 0xff, 0x61, 0xf2, 0x00, 0x15, 0xad,
	}
	if got := sha.New().Sum([]byte("abc")); got != want {
		t.Errorf("%x, not %x", got, want)
	}
}

func TestP301SumOfKnownTexts(t *testing.T) {
	for _, c := range []struct {
		text []byte
		want string
	}{
		{nil, "e3b0c44298fc1c149afbf4c8996fb92427ae41e4649b934ca495991b7852b855"},
		{[]byte{}, "e3b0c44298fc1c149afbf4c8996fb92427ae41e4649b934ca495991b7852b855"},
		{[]byte("abcdbcdecdefdefgefghfghighijhijkijkljklmklmnlmnomnopnopq"), "248d6a61d20638b8e5c026930c3e6039a33ce45964ff2167f6ecedd419db06c1"},
		{[]byte("abcdefghbcdefghicdefghijdefghijkefghijklfghijklmghijklmnhijklmnoijklmnopjklmnopqklmnopqrlmnopqrsmnopqrstnopqrstu"), "cf5b16a778af8380036ce59e7b0492370b249b11e8f07a51afac45037afee9d1"},
		{bytes.Repeat([]byte{'a'}, 1000000), "cdc76e5c9914fb9281a1c7e284d73e67f1809a48a497200e046d39ccc7112cd0"},
	} {
		if got := sha.Text(sha.New().Sum(c.text)); got != c.want {
			t.Errorf("of %d bytes: %s, not %s", len(c.text), got, c.want)
		}
	}
}

func TestP301SumOfTextsOfAllLengths(t *testing.T) {
	e := sha.New()
	for n := 0; n < 400; n++ {
		for _, b := range [][]byte{some(int64(n), n), make([]byte, n), bytes.Repeat([]byte{0xFF}, n)} {
			if got := e.Sum(b); got != api.Hash(sha256.Sum256(b)) {
				t.Fatalf("of %d bytes: %x, not %x", n, got, sha256.Sum256(b))
			}
		}
	}
}

// A length of 2^16 bits and more needs more than the two lowest bytes behind the text.
func TestP301SumOfLongTexts(t *testing.T) {
	e := sha.New()
	for _, n := range []int{8191, 8192, 8193, 1<<21 - 1, 1 << 21, 1<<21 + 1} {
		b := some(int64(n), n)
		if got := e.Sum(b); got != api.Hash(sha256.Sum256(b)) {
			t.Errorf("of %d bytes: %x, not %x", n, got, sha256.Sum256(b))
		}
	}
}

func TestP301ManyOfEach(t *testing.T) {
	var l [][]byte
	for i, n := range edges {
		l = append(l, some(int64(i), n))
	}
	l = append(l, nil, l[3], []byte("abc"), l[3])
	got := sha.New().Many(l)
	if len(got) != len(l) {
		t.Fatalf("%d hashes of %d texts", len(got), len(l))
	}
	for i, b := range l {
		if got[i] != api.Hash(sha256.Sum256(b)) {
			t.Errorf("text %d: %x, not %x", i, got[i], sha256.Sum256(b))
		}
	}
}

func TestP301ManyOfNoText(t *testing.T) {
	e := sha.New()
	for _, l := range [][][]byte{nil, {}} {
		if got := e.Many(l); len(got) != 0 {
			t.Errorf("%v", got)
		}
	}
	if e.Blocks() != 0 {
		t.Errorf("%d blocks of no text", e.Blocks())
	}
}

func TestP303BlocksOfSum(t *testing.T) {
	for _, c := range []struct {
		n    int
		want int64
	}{
		{0, 1}, {1, 1}, {55, 1}, {56, 2}, {63, 2}, {64, 2}, {65, 2}, {119, 2}, {120, 3}, {128, 3}, {183, 3}, {184, 4},
	} {
		e := sha.New()
		e.Sum(make([]byte, c.n))
		if e.Blocks() != c.want {
			t.Errorf("of %d bytes: %d blocks, not %d", c.n, e.Blocks(), c.want)
		}
	}
}

func TestP303BlocksOfAllCalls(t *testing.T) {
	e := sha.New()
	if e.Blocks() != 0 {
		t.Fatalf("a new engine: %d", e.Blocks())
	}
	var want int64
	var l [][]byte
	for i, n := range edges {
		e.Sum(some(int64(i), n))
		want += blocksOf(n)
		if e.Blocks() != want {
			t.Fatalf("behind a text of %d bytes: %d, not %d", n, e.Blocks(), want)
		}
		l = append(l, some(int64(i), n))
	}
	e.Many(l)
	if e.Blocks() != 2*want {
		t.Errorf("behind Many: %d, not %d", e.Blocks(), 2*want)
	}
	e.Blocks()
	e.Stream()
	h, _ := sha.Parse(sha.Text(api.Hash{}))
	sha.Compare(h, h)
	if e.Blocks() != 2*want {
		t.Errorf("calls that go through none: %d, not %d", e.Blocks(), 2*want)
	}
}

func TestNilEngine(t *testing.T) {
	var e *sha.Engine
	if e.Sum([]byte("abc")) != (api.Hash{}) || e.Sum(nil) != (api.Hash{}) {
		t.Error("Sum")
	}
	if got := e.Many([][]byte{nil, []byte("abc")}); len(got) != 0 {
		t.Errorf("Many: %v", got)
	}
	if e.Many(nil) != nil {
		t.Error("Many of no text")
	}
	if e.Stream() != nil {
		t.Error("Stream")
	}
	if e.Blocks() != 0 {
		t.Error("Blocks")
	}
}

func TestZeroEngineIsAsGoodAsNew(t *testing.T) {
	var a, b, c sha.Engine
	want := api.Hash(sha256.Sum256([]byte("abc")))
	if a.Blocks() != 0 || a.Sum([]byte("abc")) != want || a.Blocks() != 1 {
		t.Error("Sum")
	}
	if got := b.Many([][]byte{[]byte("abc")}); len(got) != 1 || got[0] != want {
		t.Error("Many")
	}
	s := c.Stream()
	s.Write([]byte("abc"))
	if s.Sum() != want {
		t.Error("Stream")
	}
}

func TestTwoEnginesShareNothing(t *testing.T) {
	a, b := sha.New(), sha.New()
	if a == b {
		t.Fatal("one engine, made twice")
	}
	a.Sum(make([]byte, 200))
	s := a.Stream()
	s.Write(make([]byte, 200))
	if b.Blocks() != 0 {
		t.Errorf("%d blocks of the other one's", b.Blocks())
	}
	b.Sum(nil)
	if a.Blocks() != 7 || b.Blocks() != 1 {
		t.Errorf("%d and %d, not 7 and 1", a.Blocks(), b.Blocks())
	}
}

func TestEngineIsAskedFromManySides(t *testing.T) {
	e := sha.New()
	var all sync.WaitGroup
	for i := 0; i < 8; i++ {
		all.Go(func() {
			for n := 0; n < 100; n++ {
				b := some(int64(i*100+n), n)
				if e.Sum(b) != api.Hash(sha256.Sum256(b)) {
					t.Errorf("text %d of %d bytes", i, n)
				}
			}
		})
	}
	all.Wait()
	var want int64
	for n := 0; n < 100; n++ {
		want += 8 * blocksOf(n)
	}
	if e.Blocks() != want {
		t.Errorf("%d blocks, not %d", e.Blocks(), want)
	}
}

// withRoom: b in the middle of more bytes, all of which are told again.
func withRoom(b []byte) (in, whole []byte) {
	whole = bytes.Repeat([]byte{0xA5}, len(b)+200)
	copy(whole[100:], b)
	return whole[100 : 100+len(b)], whole
}

func TestWhatIsHandedInIsNotChanged(t *testing.T) {
	e := sha.New()
	for _, n := range edges {
		in, whole := withRoom(some(int64(n), n))
		was := bytes.Clone(whole)
		list := [][]byte{in, in, nil}
		e.Sum(in)
		e.Many(list[:2])
		s := e.Stream()
		s.Write(in)
		s.Write(in)
		s.Sum()
		if !bytes.Equal(whole, was) {
			t.Errorf("of %d bytes: changed", n)
		}
		if !bytes.Equal(list[0], in) || !bytes.Equal(list[1], in) || list[2] != nil {
			t.Errorf("of %d bytes: the list changed", n)
		}
	}
}

func TestWhatIsHandedOutIsNew(t *testing.T) {
	e := sha.New()
	l := [][]byte{[]byte("a"), []byte("b")}
	first := e.Many(l)
	want := bytes.Clone(first[0][:])
	second := e.Many(l)
	for i := range first {
		first[i] = api.Hash{}
	}
	first = append(first, api.Hash{1})
	if !bytes.Equal(second[0][:], want) || e.Sum(l[0]) != second[0] {
		t.Error("what was written into an answer is seen")
	}
	if len(first) != 3 || len(second) != 2 {
		t.Error("lists that share their room")
	}
}
