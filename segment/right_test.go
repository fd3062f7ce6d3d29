package segment_test

import (
	"math"
	"math/rand"
	"slices"
	"testing"

	"hayloft/api"
	"hayloft/segment"
	"hayloft/shelf"
)

// goodPlaces: at the edges.
func goodPlaces() []shelf.Where {
	return []shelf.Where{
		{Pack: 1, At: 0, Len: 1},
		{Pack: 999999, At: 0, Len: 1},
		{Pack: 1, At: 12000, Len: 1},
		{Pack: 1, At: 0, Len: 12000},
		{Pack: 999999, At: 12000, Len: 12000},
		{Pack: 500, At: 1, Len: 2},
		{Pack: 999998, At: 11999, Len: 11999},
	}
}

// badPlaces: each beyond one edge, and some beyond several.
func badPlaces() []shelf.Where {
	return []shelf.Where{
		{},
		{Pack: 0, At: 0, Len: 1},
		{Pack: 1000000, At: 0, Len: 1},
		{Pack: -1, At: 0, Len: 1},
		{Pack: math.MaxInt, At: 0, Len: 1},
		{Pack: math.MinInt, At: 0, Len: 1},
		{Pack: 1<<32 + 1, At: 0, Len: 1},
		{Pack: 1, At: -1, Len: 1},
		{Pack: 1, At: 12001, Len: 1},
		{Pack: 1, At: math.MaxInt, Len: 1},
		{Pack: 1, At: math.MinInt, Len: 1},
		{Pack: 1, At: 1 << 32, Len: 1},
		{Pack: 1, At: 0, Len: 0},
		{Pack: 1, At: 0, Len: -1},
		{Pack: 1, At: 0, Len: 12001},
		{Pack: 1, At: 0, Len: math.MaxInt},
		{Pack: 1, At: 0, Len: math.MinInt},
		{Pack: 1, At: 0, Len: 1<<32 + 1},
		{Pack: 0, At: -1, Len: 0},
		{Pack: 1000000, At: 12001, Len: 12001},
	}
}

// wrongNames: right but for the order of names.
func wrongNames() map[string][]segment.Entry {
	l := rising(6)
	two := func(a, b api.Hash) []segment.Entry {
		return []segment.Entry{{Name: a, W: goodPlaces()[0]}, {Name: b, W: goodPlaces()[1]}}
	}
	return map[string][]segment.Entry{
		"the zero name twice":   two(api.Hash{}, api.Hash{}),
		"a name twice":          {l[0], l[1], l[1], l[2]},
		"another place":         {l[0], one(2, 9, 9, 9)},
		"the last one twice":    {l[0], l[1], l[1]},
		"falling":               {l[1], l[0]},
		"falling at the end":    {l[0], l[2], l[1]},
		"falling in the midst":  {l[0], l[3], l[2], l[4]},
		"falling and not by 1":  {l[4], l[0], l[1]},
		"all falling":           {l[5], l[4], l[3], l[2]},
		"by the last byte":      two(api.Hash{5, 31: 2}, api.Hash{5, 31: 1}),
		"by the first byte":     two(api.Hash{2}, api.Hash{1, 31: 255}),
		"bytes have no sign":    two(api.Hash{0x80}, api.Hash{0x7F}),
		"by the eighth byte":    two(api.Hash{7: 9}, api.Hash{7: 8, 8: 255}),
		"not by bytes' numbers": two(api.Hash{1, 0, 0, 0}, api.Hash{0, 0, 0, 1}),
	}
}

// wrongLists: lists that are not right, by their length, their names or a place.
func wrongLists() map[string][]segment.Entry {
	m := wrongNames()
	m["901"] = rising(901)
	m["1800"] = rising(1800)
	for i, w := range badPlaces() {
		for k, where := range []string{"first", "in the midst", "last"} {
			l := rising(3)
			l[k].W = w
			m["place "+string(rune('a'+i))+" "+where] = l
		}
		m["place "+string(rune('a'+i))+" alone"] = []segment.Entry{{Name: named(1), W: w}}
	}
	last := rising(900)
	last[899].W.Pack = 0
	m["the last of 900"] = last
	return m
}

func TestP1001RightOfSome(t *testing.T) {
	for _, n := range []int{0, 1, 2, 3, 899, 900} {
		if !segment.Right(rising(n)) {
			t.Errorf("%d entries are not right", n)
		}
	}
	if !segment.Right(nil) || !segment.Right([]segment.Entry{}) {
		t.Error("no entry is not right")
	}
}

func TestP1001RightOfPlaces(t *testing.T) {
	var all []segment.Entry
	for i, w := range goodPlaces() {
		e := segment.Entry{Name: named(i), W: w}
		all = append(all, e)
		if !segment.Right([]segment.Entry{e}) {
			t.Errorf("%v is not right", w)
		}
	}
	if !segment.Right(all) {
		t.Error("all together are not right")
	}
}

// Several entries may have one place: just names are told apart.
func TestP1001RightOfOnePlace(t *testing.T) {
	if !segment.Right([]segment.Entry{one(1, 3, 4, 5), one(2, 3, 4, 5), one(3, 1, 0, 1)}) {
		t.Error("entries of one place, and of packs that fall, are not right")
	}
}

func TestP1001RightOfNamesByBytes(t *testing.T) {
	var all [32]byte
	for i := range all {
		all[i] = 255
	}
	names := []api.Hash{{}, {31: 1}, {31: 255}, {30: 1}, {7: 8, 8: 255}, {7: 9}, {0, 0, 0, 1}, {0, 255}, {1}, {1, 31: 1}, {0x7F}, {0x80}, {255}, all}
	var l []segment.Entry
	for _, h := range names {
		l = append(l, segment.Entry{Name: h, W: goodPlaces()[0]})
	}
	if !segment.Right(l) {
		t.Error("names that rise are not right")
	}
	for i := range l {
		for k := range i + 1 {
			if segment.Right([]segment.Entry{l[i], l[k]}) {
				t.Errorf("names %d and %d are right", i, k)
			}
		}
	}
}

func TestP1001RightOfWrongLists(t *testing.T) {
	for what, l := range wrongLists() {
		if segment.Right(l) {
			t.Errorf("%s: right", what)
		}
	}
}

func TestP1001RightAsTheWords(t *testing.T) {
	r := rand.New(rand.NewSource(1001))
	right := 0
	for range 20000 {
		l := anyEntries(r, 6, 30)
		if r.Intn(2) == 0 {
			l = wordsSort(l)
		}
		want := wordsRight(l)
		if got := segment.Right(l); got != want {
			t.Fatalf("%s: %v", told(l), got)
		}
		if want && len(l) > 2 {
			right++
		}
	}
	if right < 1000 {
		t.Errorf("just %d were right", right)
	}
}

func TestP1001SortOfFew(t *testing.T) {
	a, b, c := one(1, 1, 2, 3), one(2, 4, 5, 6), one(3, 7, 8, 9)
	are(t, "nil", segment.Sort(nil))
	are(t, "none", segment.Sort([]segment.Entry{}))
	are(t, "one", segment.Sort([]segment.Entry{b}), b)
	are(t, "as it is", segment.Sort([]segment.Entry{a, b, c}), a, b, c)
	are(t, "all other", segment.Sort([]segment.Entry{c, b, a}), a, b, c)
	are(t, "the last one first", segment.Sort([]segment.Entry{c, a, b}), a, b, c)
	are(t, "the zero entry", segment.Sort([]segment.Entry{a, {}, b}), segment.Entry{}, a, b)
}

// Of a name that stands several times the first one stays, whatever its place is.
func TestP1001SortOfNamesThatStandTwice(t *testing.T) {
	a, b := one(1, 5, 5, 5), one(2, 5, 5, 5)
	less, more, bad := one(1, 4, 4, 4), one(1, 6, 6, 6), one(1, 0, -1, 0)
	are(t, "alike", segment.Sort([]segment.Entry{a, a, a}), a)
	are(t, "a greater one behind", segment.Sort([]segment.Entry{a, more}), a)
	are(t, "a less one behind", segment.Sort([]segment.Entry{a, less}), a)
	are(t, "a greater one ahead", segment.Sort([]segment.Entry{more, a}), more)
	are(t, "a less one ahead", segment.Sort([]segment.Entry{less, a}), less)
	are(t, "one that can't be ahead", segment.Sort([]segment.Entry{bad, a}), bad)
	are(t, "one that can't be behind", segment.Sort([]segment.Entry{a, bad}), a)
	are(t, "others between", segment.Sort([]segment.Entry{b, more, b, a, less, one(2, 1, 1, 1)}), more, b)
	are(t, "the greater name first", segment.Sort([]segment.Entry{b, a, b}), a, b)
	are(t, "the last byte", segment.Sort([]segment.Entry{{Name: api.Hash{31: 2}}, {Name: api.Hash{31: 1}}, {Name: api.Hash{31: 2}, W: a.W}}),
		segment.Entry{Name: api.Hash{31: 1}}, segment.Entry{Name: api.Hash{31: 2}})
}

// Neither more than 900 nor places that can't be are refused: that is Right's to tell.
func TestP1001SortOfMany(t *testing.T) {
	l := rising(2500)
	back := slices.Clone(l)
	slices.Reverse(back)
	are(t, "2500, falling", segment.Sort(back), l...)
	are(t, "twice", segment.Sort(slices.Concat(back, rising(2500))), l...)
	for i := range back {
		back[i].W = badPlaces()[i%len(badPlaces())]
	}
	want := slices.Clone(back)
	slices.Reverse(want)
	are(t, "places that can't be", segment.Sort(slices.Concat(back, l)), want...)
}

func TestP1001SortAsTheWords(t *testing.T) {
	r := rand.New(rand.NewSource(1001))
	for range 2000 {
		l := anyEntries(r, 300, 1+r.Intn(200))
		got := segment.Sort(l)
		are(t, "any", got, wordsSort(l)...)
		are(t, "sorted once more", segment.Sort(got), got...)
	}
}
