package chunker_test

import (
	"bytes"
	"math"
	"math/rand"
	"slices"
	"sync"
	"testing"

	"hayloft/api"
	"hayloft/chunker"
	"hayloft/gear"
)

// some: n bytes that hang on seed alone.
func some(seed int64, n int) []byte {
	b := make([]byte, n)
	rand.New(rand.NewSource(seed)).Read(b)
	return b
}

// gears: one a seed, since to make one takes longer than to hash a chunk.
var gears sync.Map

func gearOf(seed uint64) *gear.Gear {
	g, _ := gears.LoadOrStore(seed, gear.New(seed))
	return g.(*gear.Gear)
}

// place: whether, by the chapter's words, a chunk may end behind all of b.
func place(r chunker.Rule, b []byte) bool {
	return len(b) >= r.Min && gearOf(r.Seed).Hash(b)&gear.Mask(r.Avg) == 0
}

// wordsCut: how many bytes the first chunk has by the chapter's words.
func wordsCut(r chunker.Rule, b []byte) int {
	if len(b) <= r.Min {
		return len(b)
	}
	most := min(len(b), r.Max)
	for n := r.Min; n < most; n++ {
		if place(r, b[:n]) {
			return n
		}
	}
	return most
}

// wordsSplit: the chunks by the chapter's words.
func wordsSplit(r chunker.Rule, b []byte) [][]byte {
	var l [][]byte
	for len(b) > 0 {
		n := wordsCut(r, b)
		l = append(l, b[:n])
		b = b[n:]
	}
	return l
}

func rule(min, avg, max int) chunker.Rule {
	return chunker.Rule{Seed: 7, Min: min, Avg: avg, Max: max}
}

// rightRules: rules at the edges, and others.
func rightRules() []chunker.Rule {
	return []chunker.Rule{
		chunker.Usual(), rule(1, 1, 1), rule(1, 1, 4096), rule(1, 2, 2), rule(1, 4096, 4096), rule(4096, 4096, 4096),
		rule(4, 4, 4), rule(4, 4, 5), rule(3, 4, 5), rule(1, 2, 3), rule(2, 2, 4096), rule(1, 8, 64), rule(16, 16, 17),
		rule(63, 64, 200), rule(64, 64, 64), rule(65, 128, 128), rule(100, 128, 1000), rule(1, 1024, 1025),
		{Seed: math.MaxUint64, Min: 2, Avg: 4, Max: 9}, {Seed: 1 << 63, Min: 16, Avg: 32, Max: 64},
	}
}

// wrongRules: such that are not right.
func wrongRules() map[string]chunker.Rule {
	return map[string]chunker.Rule{
		"zero":                             {},
		"a seed alone":                     {Seed: 5},
		"Min 0":                            rule(0, 4, 4),
		"Min 0, the others 1":              rule(0, 1, 1),
		"Min above Avg":                    rule(5, 4, 8),
		"Min above all":                    rule(9, 4, 8),
		"Avg above Max":                    rule(4, 8, 7),
		"Avg above Max by far":             rule(1, 4096, 1),
		"Max 4097":                         rule(1, 4, 4097),
		"Max 4097, Avg 4096":               rule(1, 4096, 4097),
		"all 4097":                         rule(4097, 4097, 4097),
		"all 8192":                         rule(8192, 8192, 8192),
		"Avg 3":                            rule(1, 3, 4),
		"Avg 6":                            rule(1, 6, 8),
		"Avg 4095":                         rule(1, 4095, 4096),
		"Avg 33":                           rule(16, 33, 64),
		"Avg 0":                            rule(0, 0, 4),
		"Avg 0 and Min 1":                  rule(1, 0, 4),
		"Max 0":                            rule(1, 1, 0),
		"Min below 0":                      rule(-1, 4, 4),
		"Avg below 0":                      rule(-5, -4, 4),
		"Max below 0":                      rule(1, 4, -4),
		"all below 0":                      rule(-4, -4, -4),
		"all -1":                           rule(-1, -1, -1),
		"the least numbers":                rule(math.MinInt, math.MinInt, math.MinInt),
		"the least Avg, which one bit has": rule(math.MinInt, math.MinInt, 4096),
		"the least Min":                    rule(math.MinInt, 4, 4),
		"the greatest numbers":             rule(math.MaxInt, math.MaxInt, math.MaxInt),
		"the greatest Max":                 rule(1, 4, math.MaxInt),
		"an Avg of 2^62":                   rule(1, 1<<62, math.MaxInt),
	}
}

func TestP501Right(t *testing.T) {
	for _, r := range rightRules() {
		if !chunker.Right(r) {
			t.Errorf("%+v: not right", r)
		}
	}
	for what, r := range wrongRules() {
		if chunker.Right(r) {
			t.Errorf("%s: right", what)
		}
	}
}

func TestP501RightByItsWords(t *testing.T) {
	powers := []int{1, 2, 4, 8, 16, 32, 64, 128, 256, 512, 1024, 2048, 4096, 8192}
	numbers := []int{math.MinInt, -8, -1, 0, 1, 2, 3, 4, 5, 7, 8, 9, 1023, 1024, 1025, 4095, 4096, 4097, 8192, math.MaxInt}
	for _, low := range numbers {
		for _, avg := range numbers {
			for _, high := range numbers {
				want := low >= 1 && low <= avg && avg <= high && high <= 4096 && slices.Contains(powers, avg)
				if got := chunker.Right(rule(low, avg, high)); got != want {
					t.Errorf("%d %d %d: %v", low, avg, high, got)
				}
			}
		}
	}
	for avg := 1; avg <= 4096; avg++ {
		if got, want := chunker.Right(rule(1, avg, 4096)), slices.Contains(powers, avg); got != want {
			t.Errorf("1 %d 4096: %v", avg, got)
		}
	}
}

func TestP501RightWhateverTheSeed(t *testing.T) {
	for _, seed := range []uint64{0, 1, 1 << 63, math.MaxUint64} {
		if !chunker.Right(chunker.Rule{Seed: seed, Min: 1, Avg: 2, Max: 3}) {
			t.Errorf("seed %X: not right", seed)
		}
		if chunker.Right(chunker.Rule{Seed: seed, Min: 1, Avg: 3, Max: 3}) {
			t.Errorf("seed %X: right", seed)
		}
	}
}

func TestP501Usual(t *testing.T) {
	want := chunker.Rule{Seed: 0, Min: 16, Avg: 32, Max: 64}
	if got := chunker.Usual(); got != want || !chunker.Right(got) {
		t.Errorf("%+v", got)
	}
}

func TestP501Cut(t *testing.T) {
	for _, r := range rightRules() {
		sizes := []int{0, 1, 2, r.Min - 1, r.Min, r.Min + 1, r.Avg, r.Max - 1, r.Max, r.Max + 1, 2*r.Max + 3}
		for _, n := range sizes {
			for seed := range int64(3) {
				b := some(seed, n)
				if got, want := chunker.Cut(r, b), wordsCut(r, b); got != want {
					t.Errorf("%+v, %d bytes: %d, not %d", r, n, got, want)
				}
			}
		}
	}
}

func TestP501CutOfFewBytes(t *testing.T) {
	r := chunker.Usual()
	if chunker.Cut(r, nil) != 0 || chunker.Cut(r, []byte{}) != 0 {
		t.Error("of no byte: not 0")
	}
	for n := 1; n <= r.Min; n++ {
		for seed := range int64(50) {
			if got := chunker.Cut(r, some(seed, n)); got != n {
				t.Errorf("of %d bytes: %d", n, got)
			}
		}
	}
}

// endingAt: bytes, more than a rule's Max, of which the first chunk has n.
func endingAt(t *testing.T, r chunker.Rule, n int) []byte {
	t.Helper()
	for seed := range int64(100000) {
		b := some(seed, r.Max+10)
		if wordsCut(r, b) == n {
			return b
		}
	}
	t.Fatalf("%+v: no bytes whose first chunk has %d", r, n)
	return nil
}

// plain: bytes of which no place, from the Min-th on, is an end.
func plain(t *testing.T, r chunker.Rule) []byte {
	t.Helper()
	for seed := range int64(100000) {
		b := some(seed, r.Max+10)
		if wordsCut(r, b) == r.Max && !place(r, b[:r.Max]) {
			return b
		}
	}
	t.Fatalf("%+v: no bytes without an end", r)
	return nil
}

func TestP501CutEndsAtEachPlace(t *testing.T) {
	for _, r := range []chunker.Rule{chunker.Usual(), rule(3, 4, 9), rule(1, 2, 5), rule(4, 4, 4)} {
		for n := r.Min; n <= r.Max; n++ {
			b := endingAt(t, r, n)
			if got := chunker.Cut(r, b); got != n {
				t.Errorf("%+v: %d, not %d", r, got, n)
			}
			// All bytes up to the end, and just one more, are cut there too.
			if got := chunker.Cut(r, b[:n]); got != n {
				t.Errorf("%+v, %d bytes: %d", r, n, got)
			}
			if got := chunker.Cut(r, b[:n+1]); got != n {
				t.Errorf("%+v, %d bytes: %d, not %d", r, n+1, got, n)
			}
		}
	}
}

func TestP501CutWhereNothingEnds(t *testing.T) {
	for _, r := range []chunker.Rule{chunker.Usual(), rule(3, 4, 9), rule(1, 4096, 4096), rule(5, 1024, 2000)} {
		b := plain(t, r)
		for _, n := range []int{r.Min - 1, r.Min, r.Min + 1, r.Max - 1, r.Max, r.Max + 1, r.Max + 10} {
			if got, want := chunker.Cut(r, b[:n]), min(n, r.Max); got != want {
				t.Errorf("%+v, %d bytes: %d, not %d", r, n, got, want)
			}
		}
	}
}

func TestP501CutWithRulesOfOneNumber(t *testing.T) {
	for _, size := range []int{1, 2, 64, 4096} {
		r := rule(size, size, size)
		for _, n := range []int{0, 1, size - 1, size, size + 1, 3 * size} {
			if got, want := chunker.Cut(r, some(3, n)), min(n, size); got != want {
				t.Errorf("all %d, %d bytes: %d, not %d", size, n, got, want)
			}
		}
	}
	// A mask without a bit ends each chunk as soon as it may.
	if got := chunker.Cut(rule(1, 1, 4096), some(3, 5000)); got != 1 {
		t.Errorf("Avg 1: %d, not 1", got)
	}
}

func TestP501CutHangsOnTheSeed(t *testing.T) {
	b := some(1, 64)
	met := make(map[int]int)
	for seed := range uint64(200) {
		r := chunker.Usual()
		r.Seed = seed
		n := chunker.Cut(r, b)
		if n != wordsCut(r, b) {
			t.Errorf("seed %d: %d", seed, n)
		}
		met[n]++
	}
	if len(met) < 10 {
		t.Errorf("200 seeds cut at %d places", len(met))
	}
}

func TestP501CutWrong(t *testing.T) {
	for what, r := range wrongRules() {
		for _, n := range []int{0, 1, 4, 5000} {
			if got := chunker.Cut(r, some(1, n)); got != 0 {
				t.Errorf("%s, %d bytes: %d", what, n, got)
			}
		}
	}
}

func TestP502Example(t *testing.T) {
	l, f := chunker.Split(chunker.Rule{Min: 4, Avg: 4, Max: 4}, []byte("0123456789"))
	if f != api.OK || len(l) != 3 || string(l[0]) != "0123" || string(l[1]) != "4567" || string(l[2]) != "89" {
		t.Errorf("%q %v", l, f)
	}
	e, f := chunker.Ends(chunker.Rule{Min: 4, Avg: 4, Max: 4}, []byte("0123456789"))
	if f != api.OK || !slices.Equal(e, []int{4, 8, 10}) {
		t.Errorf("%v %v", e, f)
	}
}

func same(a, b [][]byte) bool {
	return slices.EqualFunc(a, b, bytes.Equal)
}

// endsOf: where each of the chunks ends.
func endsOf(l [][]byte) []int {
	var ends []int
	for i := range l {
		ends = append(ends, len(bytes.Join(l[:i+1], nil)))
	}
	return ends
}

func TestP502SplitAndEnds(t *testing.T) {
	for _, r := range rightRules() {
		for _, n := range []int{1, r.Min, r.Min + 1, r.Max, r.Max + 1, 300, 2000} {
			b := some(int64(n), n)
			want := wordsSplit(r, b)
			l, f := chunker.Split(r, b)
			if f != api.OK || !same(l, want) {
				t.Errorf("%+v, %d bytes: Split %x, %v", r, n, l, f)
			}
			e, f := chunker.Ends(r, b)
			if f != api.OK || !slices.Equal(e, endsOf(want)) {
				t.Errorf("%+v, %d bytes: Ends %v, %v", r, n, e, f)
			}
		}
	}
}

func TestP502OfNoByte(t *testing.T) {
	for _, r := range rightRules() {
		for _, b := range [][]byte{nil, {}} {
			if l, f := chunker.Split(r, b); len(l) != 0 || f != api.OK {
				t.Errorf("%+v: Split %x, %v", r, l, f)
			}
			if e, f := chunker.Ends(r, b); len(e) != 0 || f != api.OK {
				t.Errorf("%+v: Ends %v, %v", r, e, f)
			}
		}
	}
}

func TestP502Wrong(t *testing.T) {
	for what, r := range wrongRules() {
		for _, n := range []int{0, 1, 5000} {
			if l, f := chunker.Split(r, some(1, n)); l != nil || f != api.BadArg {
				t.Errorf("%s: Split %x, %v", what, l, f)
			}
			if e, f := chunker.Ends(r, some(1, n)); e != nil || f != api.BadArg {
				t.Errorf("%s: Ends %v, %v", what, e, f)
			}
		}
	}
}

func TestP502Join(t *testing.T) {
	tests := []struct {
		l    [][]byte
		want string
	}{
		{nil, ""}, {[][]byte{}, ""}, {[][]byte{nil}, ""}, {[][]byte{{}, nil, {}}, ""},
		{[][]byte{[]byte("a")}, "a"}, {[][]byte{[]byte("ab"), []byte("c")}, "abc"},
		{[][]byte{nil, []byte("b"), {}, []byte("a"), nil}, "ba"},
	}
	for _, x := range tests {
		if got := chunker.Join(x.l); string(got) != x.want {
			t.Errorf("%q: %q", x.l, got)
		}
	}
}

// Rule 4: what comes in is left alone, what goes out is new.

// roomy: b with spare room behind it, which all of full shows.
func roomy(b []byte) (in, full []byte) {
	full = append(bytes.Clone(b), 0xA5, 0x5A, 0xA5, 0x5A)
	return full[:len(b)], full
}

func TestP502LeavesWhatIsHandedIn(t *testing.T) {
	r := chunker.Usual()
	in, full := roomy(some(4, 500))
	was := bytes.Clone(full)
	chunker.Cut(r, in)
	chunker.Ends(r, in)
	l, _ := chunker.Split(r, in)
	scribble(l)
	if !bytes.Equal(full, was) {
		t.Error("Cut, Ends or Split changes what is handed in, or hands it out")
	}
	for _, parts := range [][][]byte{{in[:500]}, {in[:100], in[100:]}, {nil, in}} {
		j := chunker.Join(parts)
		scribble([][]byte{j})
		if !bytes.Equal(full, was) {
			t.Error("Join changes what is handed in, or hands it out")
		}
	}
}

// scribble writes into all of each list, spare room too.
func scribble(l [][]byte) {
	for i := range l {
		c := l[i][:cap(l[i])]
		for j := range c {
			c[j] ^= 0xFF
		}
	}
}

// apart: whether a write into one of the lists, spare room too, is seen in no other.
func apart(l [][]byte) bool {
	was := make([][]byte, len(l))
	for i := range l {
		was[i] = bytes.Clone(l[i])
	}
	for i := range l {
		scribble(l[i : i+1])
		for j := range l {
			if j != i && !bytes.Equal(l[j], was[j]) {
				return false
			}
		}
		scribble(l[i : i+1])
	}
	return true
}

func TestP502ChunksShareNothing(t *testing.T) {
	for _, r := range []chunker.Rule{chunker.Usual(), rule(1, 1, 1), rule(4, 4, 4), rule(1, 4, 4096)} {
		l, _ := chunker.Split(r, some(4, 300))
		if !apart(l) {
			t.Errorf("%+v: chunks share memory", r)
		}
		scribble(l)
		if again, _ := chunker.Split(r, some(4, 300)); !same(again, wordsSplit(r, some(4, 300))) {
			t.Errorf("%+v: another split sees what was written", r)
		}
	}
}

func TestP502SpareRoomOfEndsIsNew(t *testing.T) {
	b := some(4, 300)
	e, _ := chunker.Ends(chunker.Usual(), b)
	clear(e[:cap(e)])
	if again, _ := chunker.Ends(chunker.Usual(), b); !slices.Equal(again, endsOf(wordsSplit(chunker.Usual(), b))) {
		t.Error("another call sees what was written")
	}
}

func TestP504Laws(t *testing.T) {
	for _, r := range rightRules() {
		for seed := range int64(20) {
			b := some(seed, int(seed)*137%3000)
			l, _ := chunker.Split(r, b)
			if !bytes.Equal(chunker.Join(l), b) {
				t.Errorf("%+v: chunks joined are other bytes", r)
			}
			e, _ := chunker.Ends(r, b)
			if len(l) > 0 && (e[0] != chunker.Cut(r, b) || e[len(e)-1] != len(b)) {
				t.Errorf("%+v: ends %v of %d bytes", r, e, len(b))
			}
			for i, c := range l {
				if len(c) > r.Max || len(c) < 1 || i < len(l)-1 && len(c) < r.Min {
					t.Errorf("%+v: a chunk of %d bytes", r, len(c))
				}
			}
		}
	}
}

func TestP504BytesBehindAnEndAreCutAlike(t *testing.T) {
	for _, r := range rightRules() {
		b := some(9, 2000)
		l, _ := chunker.Split(r, b)
		e, _ := chunker.Ends(r, b)
		for i := range l {
			behind, _ := chunker.Split(r, b[e[i]:])
			if !same(behind, l[i+1:]) {
				t.Fatalf("%+v: what is behind chunk %d is cut otherwise alone", r, i)
			}
			// Other chunks ahead: they are whole ones, so that one ends there.
			ahead := endingAhead(t, r)
			others, _ := chunker.Split(r, ahead)
			whole, _ := chunker.Split(r, append(ahead, b[e[i]:]...))
			if !same(whole, append(others, l[i+1:]...)) {
				t.Fatalf("%+v: what is behind chunk %d is cut otherwise behind others", r, i)
			}
			if i > 20 {
				break
			}
		}
	}
}

// endingAhead: bytes of some chunks, each of which ends there whatever comes behind.
func endingAhead(t *testing.T, r chunker.Rule) []byte {
	t.Helper()
	var b []byte
	for seed := range int64(3) {
		x := some(seed+40, r.Max+1)
		b = append(b, x[:wordsCut(r, x)]...)
	}
	return b
}

func TestP504AnEditLeavesWhatIsBehindIt(t *testing.T) {
	r := chunker.Usual()
	b := some(12, 2000)
	edited := append([]byte("more"), b...)
	l, _ := chunker.Split(r, b)
	m, _ := chunker.Split(r, edited)
	alike := 0
	for alike < len(l) && alike < len(m) && bytes.Equal(l[len(l)-1-alike], m[len(m)-1-alike]) {
		alike++
	}
	if alike < len(l)/2 {
		t.Errorf("%d of %d chunks are alike behind an edit at the front", alike, len(l))
	}
}
