package segment_test

import (
	"math"
	"math/rand"
	"slices"
	"testing"

	"hayloft/segment"
)

// someOfPacks: entries of packs 3, 1, 3, 2, 1, as names rise.
func someOfPacks() []segment.Entry {
	return []segment.Entry{one(1, 3, 0, 9), one(2, 1, 0, 9), one(3, 3, 9, 9), one(4, 2, 0, 9), one(5, 1, 9, 9)}
}

func TestP1004Without(t *testing.T) {
	l := someOfPacks()
	are(t, "nil", segment.Without(l, nil), l...)
	are(t, "no pack", segment.Without(l, []int{}), l...)
	are(t, "not there", segment.Without(l, []int{4}), l...)
	are(t, "none that is there", segment.Without(l, []int{0, -1, -3, 4, 31, 1000000, math.MaxInt, math.MinInt, 1<<32 + 1}), l...)
	are(t, "one", segment.Without(l, []int{1}), l[0], l[2], l[3])
	are(t, "the first", segment.Without(l, []int{3}), l[1], l[3], l[4])
	are(t, "one in the midst", segment.Without(l, []int{2}), l[0], l[1], l[2], l[4])
	are(t, "one and one that is not there", segment.Without(l, []int{7, 3, 8}), l[1], l[3], l[4])
	are(t, "the same several times", segment.Without(l, []int{1, 1, 1}), l[0], l[2], l[3])
	are(t, "two", segment.Without(l, []int{3, 1}), l[3])
	are(t, "two, the other way", segment.Without(l, []int{1, 3}), l[3])
	are(t, "all", segment.Without(l, []int{2, 3, 1}))
	are(t, "none of none", segment.Without(nil, nil))
	are(t, "some of none", segment.Without(nil, []int{1, 2}))
	are(t, "some of none", segment.Without([]segment.Entry{}, []int{1, 2}))
}

// Entries that are not right keep their order, and those that stand twice are there twice.
func TestP1004WithoutOfWrongLists(t *testing.T) {
	l := []segment.Entry{one(5, 2, 0, 1), one(1, -1, 0, 1), one(5, 2, 0, 1), one(4, 0, 0, 0), one(3, math.MaxInt, -1, -1), one(2, 2, 7, 7)}
	are(t, "not there", segment.Without(l, []int{1}), l...)
	are(t, "-1", segment.Without(l, []int{-1}), l[0], l[2], l[3], l[4], l[5])
	are(t, "0", segment.Without(l, []int{0}), l[0], l[1], l[2], l[4], l[5])
	are(t, "the greatest", segment.Without(l, []int{math.MaxInt}), l[0], l[1], l[2], l[3], l[5])
	are(t, "2", segment.Without(l, []int{2}), l[1], l[3], l[4])
	many := rising(2000)
	are(t, "2000", segment.Without(many, []int{many[7].W.Pack}), slices.Delete(slices.Clone(many), 7, 8)...)
}

// packsAre: just these, in that order.
func packsAre(t *testing.T, what string, l []segment.Entry, want ...int) {
	t.Helper()
	if got := segment.Packs(l); !slices.Equal(got, want) {
		t.Errorf("%s: %v, not %v", what, got, want)
	}
}

func TestP1004Packs(t *testing.T) {
	packsAre(t, "nil", nil)
	packsAre(t, "none", []segment.Entry{})
	packsAre(t, "one", someOfPacks()[:1], 3)
	packsAre(t, "one several times", []segment.Entry{one(1, 7, 0, 1), one(2, 7, 1, 1), one(3, 7, 2, 1)}, 7)
	packsAre(t, "several, out of order", someOfPacks(), 1, 2, 3)
	packsAre(t, "by numbers, not by digits", []segment.Entry{one(1, 10, 0, 1), one(2, 9, 0, 1), one(3, 999999, 0, 1), one(4, 100, 0, 1)}, 9, 10, 100, 999999)
	packsAre(t, "entries that are not right", []segment.Entry{one(4, 5, 0, 0), one(4, 0, 0, 0), one(3, math.MaxInt, 0, 0), {}, one(2, -5, 0, 0), one(1, math.MinInt, 0, 0)},
		math.MinInt, -5, 0, 5, math.MaxInt)
}

// A hundred packs, since few could come in order by chance.
func TestP1004PacksOfMany(t *testing.T) {
	var l []segment.Entry
	var want []int
	for i := range 3000 {
		l = append(l, one(i, 1+i*37%100, 0, 1))
	}
	for i := range 100 {
		want = append(want, i+1)
	}
	for range 10 {
		packsAre(t, "a hundred", l, want...)
	}
}

func TestP1004AsTheWords(t *testing.T) {
	r := rand.New(rand.NewSource(1004))
	for range 5000 {
		var l, left []segment.Entry
		var gone, there []int
		for range r.Intn(5) {
			gone = append(gone, r.Intn(9)-1)
		}
		for range r.Intn(12) {
			e := one(r.Intn(20), r.Intn(9)-1, r.Intn(3), r.Intn(3))
			l = append(l, e)
			if !slices.Contains(gone, e.W.Pack) {
				left = append(left, e)
			}
			if !slices.Contains(there, e.W.Pack) {
				there = append(there, e.W.Pack)
			}
		}
		slices.Sort(there)
		are(t, "any", segment.Without(l, gone), left...)
		packsAre(t, "any", l, there...)
		are(t, "all packs", segment.Without(l, segment.Packs(l)))
	}
}
