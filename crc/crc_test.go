package crc_test

import (
	"bytes"
	"hash/crc32"
	"math"
	"math/rand"
	"sync"
	"testing"

	"hayloft/api"
	"hayloft/crc"
)

// wordsMore: More by the chapter's words, bit by bit.
func wordsMore(sum uint32, b []byte) uint32 {
	r := ^sum
	for _, c := range b {
		r ^= uint32(c)
		for i := 0; i < 8; i++ {
			fell := r & 1
			r >>= 1
			if fell == 1 {
				r ^= 0x82F63B78
			}
		}
	}
	return ^r
}

// wordsSum: the sum by the chapter's words.
func wordsSum(b []byte) uint32 { return wordsMore(0, b) }

// some: n bytes that hang on seed alone.
func some(seed int64, n int) []byte {
	b := make([]byte, n)
	rand.New(rand.NewSource(seed)).Read(b)
	return b
}

// sums: sums at the edges, and others.
func sums() []uint32 {
	l := []uint32{0, 1, 1 << 31, math.MaxUint32, math.MaxUint32 - 1, 0x82F63B78, 0xE3069283}
	r := rand.New(rand.NewSource(2))
	for len(l) < 40 {
		l = append(l, r.Uint32())
	}
	return l
}

func TestP201SumOfTheExample(t *testing.T) {
	if got := crc.New().Sum([]byte("123456789")); got != 0xE3069283 {
		t.Errorf("%X, not E3069283", got)
	}
}

func TestP201SumOfKnownBytes(t *testing.T) {
	up, down := make([]byte, 32), make([]byte, 32)
	for i := range up {
		up[i], down[31-i] = byte(i), byte(i)
	}
	for _, c := range []struct {
		b    []byte
		want uint32
	}{
		{nil, 0},
		{[]byte{}, 0},
		{make([]byte, 32), 0x8A9136AA},
		{bytes.Repeat([]byte{0xFF}, 32), 0x62A8AB43},
		{up, 0x46DD794E},
		{down, 0x113FDB5C},
	} {
		if got := crc.New().Sum(c.b); got != c.want {
			t.Errorf("of % X: %08X, not %08X", c.b, got, c.want)
		}
	}
}

func TestP201SumIsTheWordsSum(t *testing.T) {
	c, table := crc.New(), crc32.MakeTable(crc32.Castagnoli)
	for i := 0; i < 256; i++ {
		one := []byte{byte(i)}
		if got := c.Sum(one); got != wordsSum(one) {
			t.Errorf("of the byte %d: %08X, not %08X", i, got, wordsSum(one))
		}
	}
	for n := 0; n < 300; n++ {
		b := some(int64(n), n)
		got := c.Sum(b)
		if got != wordsSum(b) || got != crc32.Checksum(b, table) {
			t.Errorf("of %d bytes: %08X, not %08X", n, got, wordsSum(b))
		}
	}
}

func TestP201MoreGoesOn(t *testing.T) {
	c := crc.New()
	for n := 0; n < 60; n++ {
		b := some(int64(n)+500, n)
		for at := 0; at <= n; at++ {
			if got := c.More(c.Sum(b[:at]), b[at:]); got != wordsSum(b) {
				t.Fatalf("%d of %d bytes, then the others: %08X, not %08X", at, n, got, wordsSum(b))
			}
		}
	}
}

func TestP201MoreOfAnySum(t *testing.T) {
	c := crc.New()
	for _, s := range sums() {
		if got := c.More(s, nil); got != s {
			t.Errorf("%08X and no more: %08X", s, got)
		}
		for n := 1; n < 20; n++ {
			b := some(int64(n), n)
			if got := c.More(s, b); got != wordsMore(s, b) {
				t.Errorf("%08X and %d bytes: %08X, not %08X", s, n, got, wordsMore(s, b))
			}
		}
	}
}

func TestP201EachCallMayBeTheFirst(t *testing.T) {
	b := []byte("hay in a loft")
	want := wordsSum(b)
	sealed := crc.New().Seal(b)
	if got := crc.New().More(0, b); got != want {
		t.Errorf("More: %08X, not %08X", got, want)
	}
	if got, f := crc.New().Open(sealed); f != api.OK || !bytes.Equal(got, b) {
		t.Errorf("Open: %q, %v", got, f)
	}
	if got := crc.New().Zeros(want, 3); got != wordsMore(want, make([]byte, 3)) {
		t.Errorf("Zeros: %08X", got)
	}
	if got := crc.New().Join(want, want, len(b)); got != wordsSum(append(bytes.Clone(b), b...)) {
		t.Errorf("Join: %08X", got)
	}
	if got := new(crc.Table).Sum(b); got != want {
		t.Errorf("Sum of a table that is zero: %08X, not %08X", got, want)
	}
}

func TestP202ZerosIsMoreByBytesZero(t *testing.T) {
	c := crc.New()
	for _, s := range sums() {
		for n := 0; n < 140; n++ {
			if got, want := c.Zeros(s, n), wordsMore(s, make([]byte, n)); got != want {
				t.Fatalf("%08X and %d bytes 0: %08X, not %08X", s, n, got, want)
			}
		}
	}
	for _, n := range []int{255, 256, 257, 4095, 65535, 65536, 99000, 1<<20 + 7} {
		if got, want := c.Zeros(0xE3069283, n), c.More(0xE3069283, make([]byte, n)); got != want {
			t.Errorf("%d bytes 0: %08X, not %08X", n, got, want)
		}
	}
}

func TestP202ZerosOfNoneIsTheSum(t *testing.T) {
	c := crc.New()
	for _, s := range sums() {
		for _, n := range []int{0, -1, -2, -3, -8, -1 << 31, math.MinInt + 1, math.MinInt} {
			if got := c.Zeros(s, n); got != s {
				t.Errorf("%08X and %d: %08X", s, n, got)
			}
		}
	}
}

// zerosByDoubling: Zeros by a way that knows no polynomials: what n bytes do to each bit of a
// register tells what twice as many do.
func zerosByDoubling(sum uint32, n int) uint32 {
	var does [32]uint32
	for i := range does {
		does[i] = ^wordsMore(^(uint32(1) << i), []byte{0})
	}
	apply := func(r uint32) uint32 {
		out := uint32(0)
		for i := range does {
			if r>>i&1 == 1 {
				out ^= does[i]
			}
		}
		return out
	}
	r := ^sum
	for ; n > 0; n >>= 1 {
		if n&1 == 1 {
			r = apply(r)
		}
		var twice [32]uint32
		for i := range does {
			twice[i] = apply(does[i])
		}
		does = twice
	}
	return ^r
}

func TestP202ZerosOfGreatNumbers(t *testing.T) {
	c := crc.New()
	numbers := []int{1<<31 - 1, 1 << 31, 1 << 32, 1<<32 - 1, 1<<33 + 5, 1 << 60, 1<<61 - 1, 1 << 61, 1 << 62, math.MaxInt - 1, math.MaxInt}
	for _, n := range numbers {
		for _, s := range sums() {
			if got, want := c.Zeros(s, n), zerosByDoubling(s, n); got != want {
				t.Fatalf("%08X and %d bytes 0: %08X, not %08X", s, n, got, want)
			}
		}
	}
	// In parts they are as many as all at once.
	s := uint32(0xE3069283)
	if got, want := c.Zeros(c.Zeros(c.Zeros(s, 1<<62), 1<<62-1), 0), c.Zeros(s, math.MaxInt); got != want {
		t.Errorf("in parts: %08X, at once: %08X", got, want)
	}
}

func TestP202JoinIsTheSumOfBoth(t *testing.T) {
	c := crc.New()
	for n := 0; n < 60; n++ {
		b := some(int64(n)+900, n)
		for at := 0; at <= n; at++ {
			if got := c.Join(c.Sum(b[:at]), c.Sum(b[at:]), n-at); got != wordsSum(b) {
				t.Fatalf("%d of %d bytes, and the others: %08X, not %08X", at, n, got, wordsSum(b))
			}
		}
	}
	if got := c.Join(c.Sum([]byte("1234")), c.Sum([]byte("56789")), 5); got != 0xE3069283 {
		t.Errorf("the example in two: %08X", got)
	}
	long := some(7, 70001)
	for _, at := range []int{0, 1, 4463, 4465, 35000, 70000, 70001} {
		if got := c.Join(c.Sum(long[:at]), c.Sum(long[at:]), len(long)-at); got != wordsSum(long) {
			t.Errorf("%d of %d bytes, and the others: %08X", at, len(long), got)
		}
	}
}

// TestP202JoinOfSumsAlone: three parts, of which two are known by their sums, come out alike
// whichever two are joined first, and a part of bytes 0 is what Zeros says.
func TestP202JoinOfSumsAlone(t *testing.T) {
	c := crc.New()
	r := rand.New(rand.NewSource(11))
	for i := 0; i < 300; i++ {
		x, y, z := r.Uint32(), r.Uint32(), r.Uint32()
		ny, nz := r.Intn(1<<40)+4, r.Intn(1<<40)+4
		left, right := c.Join(c.Join(x, y, ny), z, nz), c.Join(x, c.Join(y, z, nz), ny+nz)
		if left != right {
			t.Fatalf("%08X, %08X (%d), %08X (%d): %08X and %08X", x, y, ny, z, nz, left, right)
		}
		if got, want := c.Join(x, c.Zeros(0, nz), nz), c.Zeros(x, nz); got != want {
			t.Fatalf("%08X and %d bytes 0: %08X, not %08X", x, nz, got, want)
		}
	}
	for _, n := range []int{1 << 62, math.MaxInt - 1, math.MaxInt} {
		for _, s := range sums() {
			if got, want := c.Join(s, c.Zeros(0, n), n), zerosByDoubling(s, n); got != want {
				t.Fatalf("%08X and %d bytes 0: %08X, not %08X", s, n, got, want)
			}
		}
	}
}

// TestP202JoinOfAnyFirstSum: each number of 32 bits is the sum of some four bytes.
func TestP202JoinOfAnyFirstSum(t *testing.T) {
	c := crc.New()
	for _, s := range sums() {
		for n := 0; n < 30; n++ {
			b := some(int64(n), n)
			if got, want := c.Join(s, wordsSum(b), n), wordsMore(s, b); got != want {
				t.Fatalf("%08X and %d bytes: %08X, not %08X", s, n, got, want)
			}
		}
	}
}

func TestP202JoinAtAndBelowZero(t *testing.T) {
	c := crc.New()
	for _, a := range sums() {
		if got := c.Join(a, c.Sum(nil), 0); got != a {
			t.Errorf("%08X and no bytes: %08X", a, got)
		}
		for _, b := range sums() {
			for _, n := range []int{-1, -2, -8, -1 << 31, math.MinInt + 1, math.MinInt} {
				if got := c.Join(a, b, n); got != a {
					t.Fatalf("%08X, %08X, %d: %08X", a, b, n, got)
				}
			}
		}
	}
}

func TestP203SealHasTheSumBehind(t *testing.T) {
	c := crc.New()
	if got, want := c.Seal([]byte("123456789")), []byte("123456789\x83\x92\x06\xE3"); !bytes.Equal(got, want) {
		t.Errorf("% X, not % X", got, want)
	}
	for _, b := range [][]byte{nil, {}} {
		if got := c.Seal(b); !bytes.Equal(got, make([]byte, 4)) {
			t.Errorf("of no bytes: % X", got)
		}
	}
	for n := 0; n < 100; n++ {
		b := some(int64(n), n)
		s := wordsSum(b)
		want := append(bytes.Clone(b), byte(s), byte(s>>8), byte(s>>16), byte(s>>24))
		if got := c.Seal(b); !bytes.Equal(got, want) {
			t.Errorf("of %d bytes: % X, not % X", n, got, want)
		}
	}
}

func TestP203OpenGivesWhatWasSealed(t *testing.T) {
	for n := 0; n < 100; n++ {
		b := some(int64(n), n)
		got, f := crc.New().Open(crc.New().Seal(b))
		if f != api.OK || !bytes.Equal(got, b) {
			t.Errorf("%d bytes: % X, %v", n, got, f)
		}
	}
	c := crc.New()
	twice := c.Seal(c.Seal([]byte("a")))
	once, f := c.Open(twice)
	if f != api.OK {
		t.Fatal(f)
	}
	if got, f := c.Open(once); f != api.OK || string(got) != "a" {
		t.Errorf("sealed twice: %q, %v", got, f)
	}
}

func TestP203OpenOfTooFewIsMalformed(t *testing.T) {
	c := crc.New()
	for _, b := range [][]byte{nil, {}, {0}, {0, 0}, {0, 0, 0}, {255, 255, 255}} {
		if got, f := c.Open(b); f != api.Malformed || got != nil {
			t.Errorf("of % X: % X, %v", b, got, f)
		}
	}
	if got := c.Done(); got != 0 {
		t.Errorf("gone through: %d", got)
	}
}

func TestP203OpenOfJustFour(t *testing.T) {
	c := crc.New()
	if got, f := c.Open([]byte{0, 0, 0, 0}); f != api.OK || len(got) != 0 {
		t.Errorf("of no bytes' sum: % X, %v", got, f)
	}
	for i := 0; i < 32; i++ {
		b := make([]byte, 4)
		b[i/8] |= 1 << (i % 8)
		if got, f := c.Open(b); f != api.Corrupt || got != nil {
			t.Errorf("of % X: % X, %v", b, got, f)
		}
	}
}

func TestP203OpenOfOtherBytesIsCorrupt(t *testing.T) {
	c := crc.New()
	sealed := c.Seal([]byte("123456789"))
	n := len(sealed)
	swapped := append(bytes.Clone(sealed[:n-4]), sealed[n-1], sealed[n-2], sealed[n-3], sealed[n-4])
	for _, b := range [][]byte{swapped, sealed[:n-1], sealed[1:], append(bytes.Clone(sealed), 1), make([]byte, 5), bytes.Repeat([]byte{255}, 9)} {
		if got, f := c.Open(b); f != api.Corrupt || got != nil {
			t.Errorf("of % X: % X, %v", b, got, f)
		}
	}
}

func TestP204DoneCountsWhatIsSummed(t *testing.T) {
	c := crc.New()
	want := int64(0)
	is := func(what string, more int) {
		t.Helper()
		want += int64(more)
		if got := c.Done(); got != want {
			t.Fatalf("behind %s: %d, not %d", what, got, want)
		}
	}
	is("nothing", 0)
	c.Sum(nil)
	is("Sum of none", 0)
	c.Sum(make([]byte, 9))
	is("Sum", 9)
	c.More(5, make([]byte, 1000))
	is("More", 1000)
	c.More(5, nil)
	is("More by none", 0)
	sealed := c.Seal(make([]byte, 30))
	is("Seal", 30)
	c.Seal(nil)
	is("Seal of none", 0)
	c.Open(sealed)
	is("Open", 30)
	sealed[3] ^= 1
	c.Open(sealed)
	is("Open that finds Corrupt", 30)
	c.Open(sealed[:4])
	is("Open of just four", 0)
	c.Open(sealed[:3])
	is("Open that finds Malformed", 0)
	for _, n := range []int{-1, 0, 1, 100, 1 << 40, math.MaxInt} {
		c.Zeros(7, n)
		c.Join(7, 8, n)
	}
	is("Zeros and Join", 0)
	c.Done()
	is("Done", 0)
}

func TestP204EachTableCountsItsOwn(t *testing.T) {
	a, b := crc.New(), crc.New()
	if a == b {
		t.Fatal("two new tables are one")
	}
	a.Sum(make([]byte, 10))
	b.Sum(make([]byte, 3))
	a.Seal(make([]byte, 5))
	if a.Done() != 15 || b.Done() != 3 {
		t.Errorf("%d and %d", a.Done(), b.Done())
	}
	if got := crc.New().Done(); got != 0 {
		t.Errorf("a new table: %d", got)
	}
}

func TestP204ManyAtOnceAreCounted(t *testing.T) {
	c := crc.New()
	b := []byte("123456789")
	var wait sync.WaitGroup
	for i := 0; i < 8; i++ {
		wait.Add(1)
		go func() {
			defer wait.Done()
			for k := 0; k < 500; k++ {
				if got := c.Sum(b); got != 0xE3069283 {
					t.Errorf("%08X", got)
					return
				}
			}
		}()
	}
	wait.Wait()
	if got := c.Done(); got != 8*500*9 {
		t.Errorf("%d, not %d", got, 8*500*9)
	}
}

func TestOfANilTable(t *testing.T) {
	var c *crc.Table
	b := []byte("123456789")
	for _, got := range []uint32{c.Sum(b), c.Sum(nil), c.More(5, b), c.More(5, nil), c.Zeros(5, 3), c.Zeros(5, 0), c.Zeros(5, -1), c.Join(5, 6, 3), c.Join(5, 6, 0), c.Join(5, 6, -1)} {
		if got != 0 {
			t.Errorf("a sum: %08X", got)
		}
	}
	for _, x := range [][]byte{b, nil} {
		if got := c.Seal(x); len(got) != 0 {
			t.Errorf("sealed: % X", got)
		}
	}
	for _, x := range [][]byte{nil, b[:3], b, make([]byte, 4), crc.New().Seal(b)} {
		if got, f := c.Open(x); f != api.Nil || len(got) != 0 {
			t.Errorf("of % X: % X, %v", x, got, f)
		}
	}
	if got := c.Done(); got != 0 {
		t.Errorf("gone through: %d", got)
	}
}
