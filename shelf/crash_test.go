package shelf_test

import (
	"slices"
	"testing"

	"hayloft/api"
	"hayloft/frame"
	"hayloft/shelf"
	"hayloft/simfs"
)

// crash: a Lay over a copy of s that goes down behind so many steps, and what then survives.
func crash(t *testing.T, first *simfs.FS, l []frame.Record, steps, names, cut int) *simfs.FS {
	t.Helper()
	s := first.Copy()
	h := open(t, s)
	ok(t, s.Arm(steps))
	if _, f := h.Lay(l); f != api.Down {
		t.Fatalf("%d steps: fault %d", steps, f)
	}
	ok(t, s.Up(names, slices.Repeat([]int{cut}, 9)))
	return s
}

// wholePacks: packs from next on, as many as are there, are whole, and none behind a gap is
// there; those that were sealed are there.
func wholePacks(t *testing.T, s *simfs.FS, next, sealed int, packs [][]frame.Record) {
	t.Helper()
	h := open(t, s)
	there := h.IDs()
	from, _ := slices.BinarySearch(there, next)
	for i, id := range there[from:] {
		if id != next+i || i >= len(packs) {
			t.Fatalf("packs %v", there)
		}
		holds(t, "it is whole", h, s, id, packs[i]...)
	}
	if len(there)-from < sealed {
		t.Errorf("packs %v: %d were sealed", there, sealed)
	}
}

// sealedBy: how many packs are sealed behind so many steps of a Lay.
func sealedBy(steps int, packs [][]frame.Record) int {
	for i, p := range packs {
		steps -= len(p) + 4
		if steps < 0 {
			return i
		}
	}
	return len(packs)
}

// A crash at each step within a Lay of one pack, with each number of names and bytes that survive.
func TestP905EachCrashInOnePack(t *testing.T) {
	old := records(20, 2)
	first := fresh(t, 9000)
	places := lays(t, "ahead", open(t, first), old...)
	for n := 1; n <= 3; n++ {
		l := records(3, 0, 7)[:n]
		for steps := range n + 4 {
			for names := range 4 {
				for cut := range size(l...) + 2 {
					s := crash(t, first, l, steps, names, cut)
					wholePacks(t, s, 2, 0, [][]frame.Record{l})
					reads(t, "another one", open(t, s), places, old...)
					if t.Failed() {
						t.Fatalf("%d records, %d steps, %d names, %d bytes", n, steps, names, cut)
					}
				}
			}
		}
	}
}

// A crash at each step within a Lay of several packs: names and ends of frames, and about them.
func TestP905EachCrashInSeveralPacks(t *testing.T) {
	old := records(20, 2)
	first := fresh(t, api.MaxDisk)
	places := lays(t, "ahead", open(t, first), old...)
	l := records(5000, 5000, 1853, 5000, 7, 5000, 1800, 0)
	packs, _ := parts(2, l)
	if len(packs) != 3 {
		t.Fatalf("%d packs", len(packs))
	}
	cuts := []int{0, 1, 3, 5048, 5049, 5050, 10098, 11999, 12000, 99999}
	for steps := range len(l) + 4*len(packs) {
		for names := range 4 {
			for _, cut := range cuts {
				s := crash(t, first, l, steps, names, cut)
				wholePacks(t, s, 2, sealedBy(steps, packs), packs)
				h := open(t, s)
				reads(t, "another one", h, places, old...)
				_, lost := h.Walk(1000)
				if len(lost) != 0 || len(h.IDs()) == 0 {
					t.Errorf("not loaded: %v of %v", lost, h.IDs())
				}
				if t.Failed() {
					t.Fatalf("%d steps, %d names, %d bytes", steps, names, cut)
				}
			}
		}
	}
}

// Whatever survives, all can be laid anew behind Open, and is read where Lay says.
func TestP905LaidAnewBehindACrash(t *testing.T) {
	first := fresh(t, api.MaxDisk)
	l := records(5000, 5000, 1853, 5000, 7)
	packs, _ := parts(1, l)
	for steps := range len(l) + 4*len(packs) {
		for names := range 4 {
			for _, cut := range []int{0, 60, 12000} {
				s := crash(t, first, l, steps, names, cut)
				h := open(t, s)
				places := lays(t, "anew", h, l...)
				ok(t, s.Up(0, nil))
				reads(t, "anew", open(t, s), places, l...)
			}
		}
	}
}

// What Lay lays is read where it says, whatever is laid and dropped beside it.
func TestP905WhatIsLaidIsRead(t *testing.T) {
	s := fresh(t, api.MaxDisk)
	h := open(t, s)
	var all []frame.Record
	var places []shelf.Where
	for i := range 12 {
		l := records(i, 5000-i, 3*i, 100)
		w := lays(t, "more", h, l...)
		places, all = append(places, w...), append(all, l...)
		reads(t, "all so far", h, places, all...)
		walks(t, "all so far", h, len(all)+1, found(places, all))
		if i%3 == 2 {
			drops(t, "the one ahead", h, 1, api.OK, w[0].Pack-1)
			gone := len(all) - 8
			places, all = slices.Delete(places, gone, gone+4), slices.Delete(all, gone, gone+4)
		}
		ok(t, s.Up(0, nil))
	}
	reads(t, "another shelf", open(t, s), places, all...)
}
