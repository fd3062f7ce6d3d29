package segment_test

import (
	"math/rand"
	"slices"
	"testing"

	"hayloft/api"
	"hayloft/segment"
	"hayloft/shelf"
)

// finds: the name stands there.
func finds(t *testing.T, what string, l []segment.Entry, h api.Hash, want shelf.Where) {
	t.Helper()
	if w, ok := segment.Find(l, h); !ok || w != want {
		t.Errorf("%s: %v, %v, not %v", what, w, ok, want)
	}
}

// misses: the name is not told, and no place beside.
func misses(t *testing.T, what string, l []segment.Entry, h api.Hash) {
	t.Helper()
	if w, ok := segment.Find(l, h); ok || w != (shelf.Where{}) {
		t.Errorf("%s: %v, %v", what, w, ok)
	}
}

func TestP1003FindInNone(t *testing.T) {
	misses(t, "nil", nil, named(1))
	misses(t, "nil, the zero name", nil, api.Hash{})
	misses(t, "none", []segment.Entry{}, named(1))
}

func TestP1003FindEach(t *testing.T) {
	for _, n := range []int{1, 2, 3, 4, 5, 6, 7, 8, 9, 31, 32, 33, 899, 900} {
		l := rising(n)
		finds(t, "the first", l, named(2), l[0].W)
		finds(t, "the last", l, named(2*n), l[n-1].W)
		for i, e := range l {
			finds(t, "one of them", l, e.Name, e.W)
			misses(t, "between, or behind", l, named(2*i+3))
		}
		misses(t, "ahead", l, named(1))
		misses(t, "ahead, the zero name", l, api.Hash{})
		misses(t, "far behind", l, api.Hash{255, 255})
	}
}

// Names that differ in one byte alone, wherever it is.
func TestP1003FindByAllBytes(t *testing.T) {
	l := rising(5)
	for _, e := range l {
		for i := range e.Name {
			for bit := range 8 {
				h := e.Name
				h[i] ^= 1 << bit
				want, ok := wordsFind(l, h)
				if w, got := segment.Find(l, h); got != ok || w != want {
					t.Errorf("byte %d, bit %d: %v, %v", i, bit, w, got)
				}
			}
		}
	}
	edge := []segment.Entry{{W: shelf.Where{Pack: 5, Len: 1}}, {Name: api.Hash{31: 1}, W: shelf.Where{Pack: 6, Len: 1}}}
	finds(t, "the zero name", edge, api.Hash{}, edge[0].W)
	finds(t, "the last byte", edge, api.Hash{31: 1}, edge[1].W)
	misses(t, "another last byte", edge, api.Hash{31: 2})
}

// In entries that are not right nothing is found, not even what is there.
func TestP1003FindInWrongLists(t *testing.T) {
	for what, l := range wrongLists() {
		for _, e := range l {
			misses(t, what, l, e.Name)
		}
		misses(t, what+", not there", l, named(5))
	}
}

func TestP1003FindAsTheWords(t *testing.T) {
	r := rand.New(rand.NewSource(1003))
	found := 0
	for range 20000 {
		l := anyEntries(r, 6, 20)
		if r.Intn(4) > 0 {
			l = wordsSort(l)
		}
		h := named(r.Intn(20))
		want, ok := wordsFind(l, h)
		if w, got := segment.Find(l, h); got != ok || w != want {
			t.Fatalf("%s: %v, %v, not %v, %v", told(l), w, got, want, ok)
		}
		if ok {
			found++
		}
	}
	if found < 500 {
		t.Errorf("just %d were found", found)
	}
}

func TestP1003JoinWithNone(t *testing.T) {
	l := rising(5)
	are(t, "none with none", segment.Join(nil, nil))
	are(t, "none with none", segment.Join([]segment.Entry{}, []segment.Entry{}))
	are(t, "none with some", segment.Join(nil, l), l...)
	are(t, "some with none", segment.Join(l, nil), l...)
	are(t, "some with themselves", segment.Join(l, l), l...)
}

// Of names that both have the places are a's.
func TestP1003JoinOfSharedNames(t *testing.T) {
	a := []segment.Entry{one(1, 1, 1, 1), one(3, 1, 3, 1), one(5, 1, 5, 1)}
	b := []segment.Entry{one(2, 2, 2, 2), one(3, 2, 3, 2), one(5, 2, 5, 2), one(6, 2, 6, 2)}
	are(t, "a, b", segment.Join(a, b), a[0], b[0], a[1], a[2], b[3])
	are(t, "b, a", segment.Join(b, a), a[0], b[0], b[1], b[2], b[3])
	are(t, "one apart, behind", segment.Join(a[:1], b[3:]), a[0], b[3])
	are(t, "one apart, ahead", segment.Join(b[3:], a[:1]), a[0], b[3])
	great := []segment.Entry{one(3, 999999, 12000, 12000)}
	are(t, "a greater place", segment.Join(great, a), a[0], great[0], a[2])
}

// Lists that are not right are joined as well, by names alone.
func TestP1003JoinOfWrongLists(t *testing.T) {
	for what, a := range wrongLists() {
		b := rising(4)
		are(t, what+", first", segment.Join(a, b), wordsSort(slices.Concat(a, b))...)
		are(t, what+", second", segment.Join(b, a), wordsSort(slices.Concat(b, a))...)
	}
	fall := []segment.Entry{one(3, 1, 1, 1), one(1, 2, 2, 2), one(3, 3, 3, 3)}
	more := []segment.Entry{one(1, 4, 4, 4), one(2, 5, 5, 5), one(2, 6, 6, 6), one(0, 7, 7, 7)}
	are(t, "falling, and twice", segment.Join(fall, more), more[3], fall[1], more[1], fall[0])
	are(t, "the other way", segment.Join(more, fall), more[3], more[0], more[1], fall[0])
}

// What is joined may be more than is right.
func TestP1003JoinOfMany(t *testing.T) {
	l := rising(1800)
	got := segment.Join(l[900:], l[:900])
	are(t, "1800", got, l...)
	if segment.Right(got) {
		t.Error("1800 entries are right")
	}
	are(t, "900 of both", segment.Join(l[:600], l[300:900]), l[:900]...)
}
