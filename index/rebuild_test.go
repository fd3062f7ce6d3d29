package index_test

import (
	"slices"
	"testing"

	"hayloft/api"
	"hayloft/frame"
	"hayloft/index"
	"hayloft/segment"
	"hayloft/shelf"
)

// rebuilds: Rebuild tells just these entries, and these packs that can't be loaded.
func rebuilds(t *testing.T, what string, h *shelf.Shelf, want []segment.Entry, lost ...int) {
	t.Helper()
	l, ids := index.Rebuild(h)
	are(t, what+": Rebuild", l, want...)
	if !slices.Equal(ids, lost) {
		t.Errorf("%s: Rebuild: not loaded: %v, not %v", what, ids, lost)
	}
}

func TestP1102RebuildOfNoPack(t *testing.T) {
	s := fresh(t, 1000)
	h := shelved(t, s)
	rebuilds(t, "nothing", h, nil)
	put(t, s, "index", saved(rising(3)...))
	put(t, s, "pack.01", []byte("x"))
	put(t, s, "tmp.1", []byte("x"))
	rebuilds(t, "no pack's names", h, nil)
	goesDown(t, s)
	rebuilds(t, "down", h, nil)
}

func TestP1102RebuildOfOnePack(t *testing.T) {
	h := shelved(t, fresh(t, 9000))
	l := lays(t, h, records(7, 3, 9, 1))
	rebuilds(t, "by names, not as they stand", h, []segment.Entry{l[3], l[1], l[0], l[2]})
	are(t, "where each stands", l, one(7, 1, 0, 49), one(3, 1, 49, 50), one(9, 1, 99, 51), one(1, 1, 150, 52))
}

// Names are the records' own, whatever hash their bodies have.
func TestP1102RebuildTellsRecordsNames(t *testing.T) {
	h := shelved(t, fresh(t, 9000))
	l := lays(t, h, []frame.Record{{Kind: 9, Name: api.Hash{31: 255}, Body: []byte("same")}, {Kind: 9, Body: []byte("same")}})
	rebuilds(t, "alike but for names", h, []segment.Entry{l[1], l[0]})
}

func TestP1102RebuildOfSeveralPacks(t *testing.T) {
	s := fresh(t, api.MaxDisk)
	h := shelved(t, s)
	var all []segment.Entry
	for i := range 12 { // pack.10 stands ahead of pack.2 by bytes, and behind it as a number
		all = append(all, lays(t, h, records(50-i, 100+i, 7))...)
	}
	want := byName(all...)
	if len(want) != 25 {
		t.Fatalf("%d names", len(want))
	}
	rebuilds(t, "a name in each", h, want)
	if w, _ := segment.Find(want, named(7)); w != all[2].W {
		t.Errorf("of a name in each pack %v", w)
	}
	_, f := h.Drop([]int{1})
	ok(t, f)
	rebuilds(t, "the first is gone", h, byName(all[3:]...))
}

func TestP1102RebuildOfANameThatStandsTwice(t *testing.T) {
	s := fresh(t, 9000)
	h := shelved(t, s)
	a := lays(t, h, records(5, 2, 5, 2, 5))
	rebuilds(t, "in one pack", h, []segment.Entry{a[1], a[0]})
	b := lays(t, h, records(2, 9, 9))
	rebuilds(t, "in two", h, []segment.Entry{a[1], a[0], b[1]})
	_, f := h.Drop([]int{1})
	ok(t, f)
	rebuilds(t, "in the other alone", h, []segment.Entry{b[0], b[1]})
}

func TestP1102RebuildOfPacksThatCantBeLoaded(t *testing.T) {
	s := fresh(t, 9000)
	h := shelved(t, s)
	put(t, s, "pack.1", nil)
	a := lays(t, h, records(5, 2)) // 2
	b := lays(t, h, records(2, 9)) // 3
	put(t, s, "pack.4", []byte("hay"))
	c := lays(t, h, records(1, 9)) // 5
	put(t, s, "pack.999999", nil)
	rebuilds(t, "three", h, byName(slices.Concat(a, b, c)...), 1, 4, 999999)
	ok(t, s.Flip("pack.2", 60, 1))
	rebuilds(t, "what it had is told by the others", h, byName(slices.Concat(b, c)...), 1, 2, 4, 999999)
	ok(t, s.Flip("pack.3", 0, 1), s.Flip("pack.5", 0, 1))
	rebuilds(t, "none", h, nil, 1, 2, 3, 4, 5, 999999)
	ok(t, s.Flip("pack.2", 60, 1))
	rebuilds(t, "turned back", h, byName(a...), 1, 3, 4, 5, 999999)
}

// As many as there are, more than can be right among them, and then the packs that can't be loaded.
func TestP1102RebuildOfMany(t *testing.T) {
	s := fresh(t, api.MaxDisk)
	h := shelved(t, s)
	l := lays(t, h, many(2000))
	put(t, s, "pack.77", nil)
	rebuilds(t, "2000", h, byName(l...), 77)
	if len(byName(l...)) != 2000 {
		t.Error("there are fewer")
	}
}

func TestP1102RebuildChangesNothing(t *testing.T) {
	s := fresh(t, 9000)
	h := shelved(t, s)
	lays(t, h, records(5, 2))
	put(t, s, "index", saved(rising(3)...))
	put(t, s, "tmp.index", nil)
	steps := s.Steps()
	ok(t, s.Arm(0))
	index.Rebuild(h)
	sees(t, "Rebuild", s, "index", "pack.1", "tmp.index")
	if s.Steps() != steps || s.Down() {
		t.Error("Rebuild has done something")
	}
	loads(t, "Rebuild", s, rising(3)...)
}
