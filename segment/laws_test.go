package segment_test

import (
	"bytes"
	"math/rand"
	"slices"
	"testing"

	"hayloft/api"
	"hayloft/crc"
	"hayloft/segment"
)

// What is put is got, and no two lists have the same bytes.
func TestP1005WhatIsPutIsGot(t *testing.T) {
	r := rand.New(rand.NewSource(1005))
	c := crc.New()
	seen := map[string][]segment.Entry{}
	for i := range 400 {
		l := anyRight(r, []int{3, 30, 900}[i%3])
		b, f := segment.Put(c, l)
		if f != api.OK || !bytes.Equal(b, sealed(listForm(l...))) {
			t.Fatalf("%s: Put: fault %d", told(l), f)
		}
		got, f := segment.Get(c, b)
		if f != api.OK {
			t.Fatalf("%s: Get: fault %d", told(l), f)
		}
		are(t, "put, and got", got, l...)
		if other, ok := seen[string(b)]; ok && !slices.Equal(other, l) {
			t.Errorf("%s and %s have the same bytes", told(l), told(other))
		}
		seen[string(b)] = l
	}
}

// Whatever is sorted, and no more than 900, and at places that can be, is right, put and got.
func TestP1005WhatIsSortedIsPut(t *testing.T) {
	r := rand.New(rand.NewSource(1005))
	for range 300 {
		l := anyRight(r, 100)
		r.Shuffle(len(l), func(i, k int) { l[i], l[k] = l[k], l[i] })
		s := segment.Sort(l)
		b, f := segment.Put(crc.New(), s)
		if !segment.Right(s) || f != api.OK {
			t.Fatalf("%s: fault %d", told(s), f)
		}
		got, _ := segment.Get(crc.New(), b)
		for _, e := range l {
			finds(t, "sorted, put, got", got, e.Name, e.W)
		}
	}
}

// What is joined has each name of both, those of a from a, and no other.
func TestP1005WhatIsJoined(t *testing.T) {
	r := rand.New(rand.NewSource(1005))
	for range 2000 {
		a, b := segment.Sort(anyEntries(r, 40, 60)), segment.Sort(anyEntries(r, 40, 60))
		j := segment.Join(a, b)
		from := map[api.Hash]segment.Entry{}
		for _, e := range slices.Concat(b, a) { // a's behind b's: they stay
			from[e.Name] = e
		}
		if len(j) != len(from) {
			t.Fatalf("%d names, not %d", len(j), len(from))
		}
		for i, e := range j {
			if e != from[e.Name] || i > 0 && bytes.Compare(j[i-1].Name[:], e.Name[:]) >= 0 {
				t.Fatalf("%s of %s and %s", told(j), told(a), told(b))
			}
		}
	}
}

// Joined one behind the other, or the last two first: the same.
func TestP1005JoinOfThree(t *testing.T) {
	r := rand.New(rand.NewSource(1005))
	for range 1000 {
		a, b, c := anyEntries(r, 20, 30), anyEntries(r, 20, 30), anyEntries(r, 20, 30)
		are(t, "three", segment.Join(segment.Join(a, b), c), segment.Join(a, segment.Join(b, c))...)
	}
}

// Without packs, right entries stay right, and those packs are none of what is left.
func TestP1005WithoutStaysRight(t *testing.T) {
	r := rand.New(rand.NewSource(1005))
	for range 500 {
		l := anyRight(r, 60)
		for i := range l {
			l[i].W.Pack = 1 + r.Intn(8)
		}
		gone := []int{1 + r.Intn(8), 1 + r.Intn(8)}
		left := segment.Without(l, gone)
		if !segment.Right(left) {
			t.Fatalf("%s: not right", told(left))
		}
		for _, id := range segment.Packs(left) {
			if slices.Contains(gone, id) {
				t.Fatalf("pack %d is left", id)
			}
		}
		are(t, "joined anew", segment.Join(left, l), l...)
	}
}
