package gear_test

import (
	"bytes"
	"math"
	"testing"

	"hayloft/gear"
)

// wordsFind: Find by the chapter's words.
func wordsFind(seed uint64, b []byte, mask uint64) int {
	for i := range b {
		if wordsHash(seed, b[:i+1])&mask == 0 {
			return i
		}
	}
	return -1
}

func TestP402Each(t *testing.T) {
	for _, seed := range seeds() {
		g := gear.New(seed)
		for _, n := range []int{1, 2, 3, 63, 64, 65, 130} {
			b := some(int64(n), n)
			next := 0
			for i, h := range g.Each(b) {
				if i != next {
					t.Fatalf("seed %X, %d bytes: place %d, not %d", seed, n, i, next)
				}
				if want := wordsHash(seed, b[:i+1]); h != want {
					t.Fatalf("seed %X, %d bytes, place %d: %X, not %X", seed, n, i, h, want)
				}
				next++
			}
			if next != n {
				t.Errorf("seed %X, %d bytes: %d places", seed, n, next)
			}
		}
	}
}

func TestP402EachOfNoByte(t *testing.T) {
	g := gear.New(3)
	for i, h := range g.Each(nil) {
		t.Errorf("of nil: %d %X", i, h)
	}
	for i, h := range g.Each([]byte{}) {
		t.Errorf("of no byte: %d %X", i, h)
	}
}

// asked: how often Each asks one that wants no more at the place last.
func asked(g *gear.Gear, b []byte, last int) int {
	n := 0
	g.Each(b)(func(i int, _ uint64) bool {
		n++
		return i != last
	})
	return n
}

func TestP402EachIsLeft(t *testing.T) {
	g := gear.New(3)
	b := some(7, 40)
	tests := []struct {
		what       string
		last, want int
	}{
		{"at its first place", 0, 1}, {"behind its first place", 1, 2}, {"in the midst", 20, 21},
		{"ahead of its last place", 38, 39}, {"at its last place", 39, 40}, {"not at all", -1, 40},
	}
	for _, x := range tests {
		if got := asked(g, b, x.last); got != x.want {
			t.Errorf("left %s: %d places are told, not %d", x.what, got, x.want)
		}
	}
}

func TestP402EachIsLeftByBreakAndReturn(t *testing.T) {
	g := gear.New(3)
	b := some(7, 40)
	places := 0
	for i := range g.Each(b) {
		places++
		if i == 5 {
			break
		}
	}
	if places != 6 {
		t.Errorf("left by break at place 5: %d places", places)
	}
	first := func() uint64 {
		for _, h := range g.Each(b) {
			return h
		}
		return 0
	}
	if first() != wordsRow(3, b[0]) {
		t.Error("left by return at place 0: another hash")
	}
}

func TestP402EachBeginsAnew(t *testing.T) {
	g := gear.New(3)
	b := some(8, 30)
	each := g.Each(b)
	for i := range each {
		if i == 10 {
			break
		}
	}
	for range 2 {
		next := 0
		for i, h := range each {
			if i != next || h != g.Hash(b[:i+1]) {
				t.Fatalf("place %d: %d %X", next, i, h)
			}
			next++
		}
		if next != len(b) {
			t.Errorf("%d places, not %d", next, len(b))
		}
	}
}

func TestP402EachWithinEach(t *testing.T) {
	g := gear.New(3)
	b := some(8, 12)
	each := g.Each(b)
	for i, h := range each {
		for j, k := range each {
			if (i == j) != (h == k) {
				t.Fatalf("places %d and %d: %X and %X", i, j, h, k)
			}
		}
	}
}

func TestP402EachKeepsNothingThatIsHandedIn(t *testing.T) {
	g := gear.New(3)
	b := some(9, 30)
	was := bytes.Clone(b)
	each := g.Each(b)
	clear(b)
	for i, h := range each {
		if want := wordsHash(3, was[:i+1]); h != want {
			t.Fatalf("place %d: %X, not %X", i, h, want)
		}
		b[29-i] = byte(i)
	}
}

func TestP402Find(t *testing.T) {
	masks := []uint64{0, 1, 3, 1 << 63, 1 << 31, 7 << 20, 0xF800000000000000, 0xF0F0, math.MaxUint64}
	for _, seed := range seeds() {
		g := gear.New(seed)
		for _, n := range []int{0, 1, 2, 10, 64, 90} {
			b := some(int64(n)+50, n)
			for _, mask := range masks {
				if got, want := g.Find(b, mask), wordsFind(seed, b, mask); got != want {
					t.Errorf("seed %X, %d bytes, mask %X: %d, not %d", seed, n, mask, got, want)
				}
			}
		}
	}
}

func TestP402FindOfNoByte(t *testing.T) {
	g := gear.New(3)
	for _, mask := range []uint64{0, 1, math.MaxUint64} {
		if g.Find(nil, mask) != -1 || g.Find([]byte{}, mask) != -1 {
			t.Errorf("mask %X: not -1", mask)
		}
	}
}

func TestP402FindWithNoBit(t *testing.T) {
	g := gear.New(3)
	for _, n := range []int{1, 2, 100} {
		if got := g.Find(some(1, n), 0); got != 0 {
			t.Errorf("%d bytes: %d, not 0", n, got)
		}
	}
}

func TestP402FindWithAllBits(t *testing.T) {
	if got := gear.New(3).Find(some(1, 500), math.MaxUint64); got != -1 {
		t.Errorf("%d, not -1", got)
	}
	// Of this seed the row of byte 0 is 0, and so each hash of bytes 0 is.
	g := gear.New(turned)
	if got := g.Find([]byte{0, 0}, math.MaxUint64); got != 0 {
		t.Errorf("a hash 0: %d, not 0", got)
	}
	b := make([]byte, 70)
	b[0], b[2] = 1, 1
	if got, want := g.Find(b, math.MaxUint64), wordsFind(turned, b, math.MaxUint64); got != want || got < 3 {
		t.Errorf("a hash that rolls out: %d, not %d", got, want)
	}
}

func TestP402FindAtThePlacesThatFit(t *testing.T) {
	// Rows of seed 0: byte 0's and byte 2's are odd, byte 1's and byte 3's even.
	// The lowest bit of a hash is that of its last row.
	g := gear.New(0)
	tests := []struct {
		what string
		b    []byte
		want int
	}{
		{"the first place alone", []byte{1, 0, 2, 0}, 0},
		{"all places", []byte{1, 3, 1, 3}, 0},
		{"the last place alone", []byte{0, 2, 0, 3}, 3},
		{"places in the midst", []byte{0, 2, 3, 1, 0}, 2},
		{"no place", []byte{0, 2, 2, 0}, -1},
		{"the one place", []byte{3}, 0},
		{"not the one place", []byte{2}, -1},
	}
	for _, x := range tests {
		if got := g.Find(x.b, 1); got != x.want {
			t.Errorf("%s fits: %d, not %d", x.what, got, x.want)
		}
	}
}

func TestP402FindIsThatOfTheWholeHash(t *testing.T) {
	// The second place's hash has the first row in it: some bits of it are not those of its own row.
	g := gear.New(0)
	b := []byte{0, 1}
	for bit := range 64 {
		mask := uint64(1) << bit
		if got, want := g.Find(b, mask), wordsFind(0, b, mask); got != want {
			t.Errorf("bit %d: %d, not %d", bit, got, want)
		}
	}
}

func TestP402FindIsWhatEachTells(t *testing.T) {
	g := gear.New(12)
	b := some(13, 2000)
	for _, avg := range []int{1, 2, 32, 256} {
		want := -1
		for i, h := range g.Each(b) {
			if h&gear.Mask(avg) == 0 {
				want = i
				break
			}
		}
		if got := g.Find(b, gear.Mask(avg)); got != want {
			t.Errorf("%d: %d, not %d", avg, got, want)
		}
	}
}
