package gear_test

import (
	"bytes"
	"math"
	"math/big"
	"math/rand"
	"sync"
	"testing"

	"hayloft/gear"
)

// turned: the seed of which x of byte 0 is 0, and so the row.
const turned uint64 = 1<<64 - 0x9E3779B97F4A7C15

// seeds: seeds at the edges, and others.
func seeds() []uint64 {
	l := []uint64{0, 1, 5, 1 << 63, math.MaxUint64, math.MaxUint64 - 1, 0x9E3779B97F4A7C15, turned}
	r := rand.New(rand.NewSource(4))
	for len(l) < 20 {
		l = append(l, r.Uint64())
	}
	return l
}

// some: n bytes that hang on seed alone.
func some(seed int64, n int) []byte {
	b := make([]byte, n)
	rand.New(rand.NewSource(seed)).Read(b)
	return b
}

// low: the lowest 64 bits of a whole number.
func low(n *big.Int) uint64 {
	return new(big.Int).And(n, new(big.Int).SetUint64(math.MaxUint64)).Uint64()
}

// times, plus: in whole numbers, of which 64 bits are left.
func times(a, b uint64) uint64 {
	return low(new(big.Int).Mul(new(big.Int).SetUint64(a), new(big.Int).SetUint64(b)))
}

func plus(a, b uint64) uint64 {
	return low(new(big.Int).Add(new(big.Int).SetUint64(a), new(big.Int).SetUint64(b)))
}

// wordsRow: the row by the chapter's words, with quotients and whole numbers.
func wordsRow(seed uint64, c byte) uint64 {
	x := plus(seed, times(uint64(c)+1, 0x9E3779B97F4A7C15))
	x = times(x^x/(1<<30), 0xBF58476D1CE4E5B9)
	x = times(x^x/(1<<27), 0x94D049BB133111EB)
	return x ^ x/(1<<31)
}

// wordsHash: the Hash by the chapter's words: each byte's row, as often doubled as bytes stand behind it.
func wordsHash(seed uint64, b []byte) uint64 {
	sum := new(big.Int)
	for i, c := range b {
		r := new(big.Int).SetUint64(wordsRow(seed, c))
		sum.Add(sum, r.Lsh(r, uint(len(b)-1-i)))
	}
	return low(sum)
}

func TestP401RowOfKnownSeeds(t *testing.T) {
	tests := []struct {
		seed uint64
		c    byte
		want uint64
	}{
		{0, 0, 0xE220A8397B1DCDAF},
		{0, 1, 0x6E789E6AA1B965F4},
		{0, 2, 0x06C45D188009454F},
		{0, 3, 0xF88BB8A8724C81EC},
		{1234567, 0, 6457827717110365317},
		{1234567, 1, 3203168211198807973},
		{1234567, 2, 9817491932198370423},
		{1234567, 3, 4593380528125082431},
		{1234567, 4, 16408922859458223821},
	}
	for _, x := range tests {
		if got := gear.New(x.seed).Row(x.c); got != x.want {
			t.Errorf("seed %d, byte %d: %X, not %X", x.seed, x.c, got, x.want)
		}
	}
}

func TestP401RowOfEachByte(t *testing.T) {
	for _, seed := range seeds() {
		g := gear.New(seed)
		for c := 255; c >= 0; c-- {
			if got, want := g.Row(byte(c)), wordsRow(seed, byte(c)); got != want {
				t.Errorf("seed %X, byte %d: %X, not %X", seed, c, got, want)
			}
		}
	}
}

func TestP401RowOfSeedThatTurnsRound(t *testing.T) {
	// The sum leaves 64 bits here.
	if got := gear.New(turned).Row(0); got != 0 {
		t.Errorf("%X, not 0", got)
	}
}

func TestP401RowIsTheSameAgain(t *testing.T) {
	g := gear.New(77)
	first := g.Row(9)
	g.Hash(some(1, 500))
	if g.Row(9) != first || gear.New(77).Row(9) != first {
		t.Error("a row is another one later, or in another gear of the seed")
	}
}

func TestP401Roll(t *testing.T) {
	hashes := []uint64{0, 1, 2, 1<<63 - 1, 1 << 63, 1<<63 + 1, math.MaxUint64}
	for _, seed := range seeds() {
		g := gear.New(seed)
		for _, h := range append(hashes, seeds()...) {
			for _, c := range []byte{0, 1, 127, 128, 255} {
				want := plus(times(2, h), wordsRow(seed, c))
				if got := g.Roll(h, c); got != want {
					t.Errorf("seed %X: Roll(%X, %d): %X, not %X", seed, h, c, got, want)
				}
			}
		}
	}
}

func TestP401RollPasses64Bits(t *testing.T) {
	g := gear.New(0)
	if got := g.Roll(1<<63, 0); got != 0xE220A8397B1DCDAF {
		t.Errorf("the highest bit is not lost: %X", got)
	}
	if got := g.Roll(math.MaxUint64, 0); got != 0xE220A8397B1DCDAF-2 {
		t.Errorf("twice the greatest hash is not 2 below 0: %X", got)
	}
}

func TestP401Hash(t *testing.T) {
	for _, seed := range seeds() {
		g := gear.New(seed)
		for n := range 140 {
			b := some(int64(n), n)
			if got, want := g.Hash(b), wordsHash(seed, b); got != want {
				t.Errorf("seed %X, %d bytes: %X, not %X", seed, n, got, want)
			}
		}
	}
}

func TestP401HashOfNoByte(t *testing.T) {
	for _, seed := range seeds() {
		g := gear.New(seed)
		if g.Hash(nil) != 0 || g.Hash([]byte{}) != 0 {
			t.Errorf("seed %X: not 0", seed)
		}
	}
}

func TestP401HashOfOneAndTwoBytes(t *testing.T) {
	g := gear.New(0)
	if got := g.Hash([]byte{0}); got != 0xE220A8397B1DCDAF {
		t.Errorf("one byte: %X", got)
	}
	if got, want := g.Hash([]byte{0, 1}), plus(times(2, 0xE220A8397B1DCDAF), 0x6E789E6AA1B965F4); got != want {
		t.Errorf("two bytes: %X, not %X", got, want)
	}
	if g.Hash([]byte{0, 1}) == g.Hash([]byte{1, 0}) {
		t.Error("the order of bytes is not seen")
	}
}

func TestP401HashIsRolls(t *testing.T) {
	g := gear.New(6)
	var h uint64
	b := some(2, 300)
	for i, c := range b {
		h = g.Roll(h, c)
		if got := g.Hash(b[:i+1]); got != h {
			t.Fatalf("%d bytes: %X, not %X", i+1, got, h)
		}
	}
}

func TestP404HashIsThatOfTheLast64(t *testing.T) {
	for _, seed := range seeds() {
		g := gear.New(seed)
		for _, n := range []int{64, 65, 66, 127, 128, 129, 300, 5000} {
			b := some(int64(n), n)
			if g.Hash(b) != g.Hash(b[n-64:]) {
				t.Errorf("seed %X, %d bytes: another Hash than that of the last 64", seed, n)
			}
		}
	}
}

func TestP404HashHangsOnEachOfTheLast64(t *testing.T) {
	// The row of seed 0 and byte 0 is odd, as that of byte 2 is; byte 1's is even:
	// a byte that is turned from 0 to 1 changes the Hash at its own bit, and so up to the 64th from behind.
	g := gear.New(0)
	for _, n := range []int{63, 64, 65, 300} {
		b := make([]byte, n)
		whole := g.Hash(b)
		for i := range b {
			b[i] = 1
			same := g.Hash(b) == whole
			if far := n-i > 64; same != far {
				t.Errorf("%d bytes, byte %d turned: the same Hash: %v", n, i, same)
			}
			b[i] = 0
		}
	}
}

func TestP404HashOf63IsNotThatOf64(t *testing.T) {
	g := gear.New(0)
	b := make([]byte, 64)
	if g.Hash(b) == g.Hash(b[1:]) {
		t.Error("the 64th byte from behind is not seen")
	}
	if got, want := g.Hash(b[1:]), wordsHash(0, b[1:]); got != want {
		t.Errorf("63 bytes: %X, not %X", got, want)
	}
}

func TestP403MaskOfTheExample(t *testing.T) {
	if got := gear.Mask(32); got != 0xF800000000000000 {
		t.Errorf("%X, not F800000000000000", got)
	}
}

func TestP403MaskOfPowersOfTwo(t *testing.T) {
	for n := range 21 {
		var want uint64
		for i := range n {
			want |= 1 << (63 - i)
		}
		if got := gear.Mask(1 << n); got != want {
			t.Errorf("2^%d: %X, not %X", n, got, want)
		}
	}
}

func TestP403MaskAtItsEdges(t *testing.T) {
	tests := []struct {
		avg  int
		want uint64
	}{
		{1, 0}, {2, 1 << 63}, {1 << 20, 0xFFFFF00000000000},
		{0, 0}, {-1, 0}, {-2, 0}, {-32, 0}, {math.MinInt, 0}, {math.MinInt + 1, 0},
		{1<<20 - 1, 0}, {1<<20 + 1, 0}, {1 << 21, 0}, {1 << 40, 0}, {1 << 62, 0}, {math.MaxInt, 0},
	}
	for _, x := range tests {
		if got := gear.Mask(x.avg); got != x.want {
			t.Errorf("%d: %X, not %X", x.avg, got, x.want)
		}
	}
}

func TestP403MaskOfOthersIs0(t *testing.T) {
	powers := 0
	for avg := -5000; avg <= 1<<21; avg++ {
		if gear.Mask(avg) != 0 {
			powers++
		}
	}
	if powers != 20 {
		t.Errorf("%d numbers have a mask other than 0, not 20", powers)
	}
	for _, avg := range []int{3, 5, 6, 7, 24, 31, 33, 48, 1<<19 + 1<<18} {
		if got := gear.Mask(avg); got != 0 {
			t.Errorf("%d: %X, not 0", avg, got)
		}
	}
}

func TestNilGear(t *testing.T) {
	var g *gear.Gear
	b := some(3, 10)
	if g.Row(0) != 0 || g.Row(255) != 0 || g.Roll(0, 0) != 0 || g.Roll(math.MaxUint64, 9) != 0 || g.Hash(b) != 0 || g.Hash(nil) != 0 {
		t.Error("a nil gear's Row, Roll or Hash is not 0")
	}
	for range g.Each(b) {
		t.Error("a nil gear's Each tells something")
	}
	for range g.Each(nil) {
		t.Error("a nil gear's Each of no byte tells something")
	}
	if g.Find(b, 0) != -1 || g.Find(b, 1) != -1 || g.Find(nil, 0) != -1 {
		t.Error("a nil gear's Find is not -1")
	}
}

func TestZeroGearIsThatOfSeed0(t *testing.T) {
	var g gear.Gear
	b := some(3, 100)
	if g.Find(b, 1<<63) != gear.New(0).Find(b, 1<<63) || g.Hash(b) != wordsHash(0, b) {
		t.Error("a zero gear is another one than that of seed 0")
	}
}

func TestGearsShareNothing(t *testing.T) {
	a, b := gear.New(1), gear.New(2)
	for c := range 256 {
		ra, rb := a.Row(byte(c)), b.Row(byte(c))
		if ra != wordsRow(1, byte(c)) || rb != wordsRow(2, byte(c)) {
			t.Fatalf("byte %d: rows of another seed", c)
		}
	}
}

func TestEachCallMayBeTheFirst(t *testing.T) {
	b := []byte{255, 0, 7}
	want := wordsHash(9, b)
	firsts := map[string]func(*gear.Gear) uint64{
		"Hash": func(g *gear.Gear) uint64 { return g.Hash(b) },
		"Roll": func(g *gear.Gear) uint64 { return g.Roll(g.Roll(g.Roll(0, 255), 0), 7) },
		"Row":  func(g *gear.Gear) uint64 { return 4*g.Row(255) + 2*g.Row(0) + g.Row(7) },
		"Each": func(g *gear.Gear) uint64 {
			var last uint64
			for _, h := range g.Each(b) {
				last = h
			}
			return last
		},
		"Find": func(g *gear.Gear) uint64 {
			if g.Find(b, wordsHash(9, b[:1])) == 0 {
				return 0
			}
			return g.Hash(b)
		},
	}
	for name, first := range firsts {
		if got := first(gear.New(9)); got != want {
			t.Errorf("%s: %X, not %X", name, got, want)
		}
	}
}

func TestGearOfManyAtATime(t *testing.T) {
	g := gear.New(8)
	b := some(5, 200)
	want := wordsHash(8, b)
	var all sync.WaitGroup
	for range 8 {
		all.Go(func() {
			if g.Hash(b) != want {
				t.Error("another Hash")
			}
		})
	}
	all.Wait()
}

func TestWhatIsHandedInIsNotChanged(t *testing.T) {
	g := gear.New(10)
	room := some(6, 100)
	kept := bytes.Clone(room)
	b := room[10:60:90]
	g.Hash(b)
	g.Find(b, math.MaxUint64)
	for range g.Each(b) {
	}
	if !bytes.Equal(room, kept) {
		t.Error("bytes handed in are changed")
	}
}
