package index_test

import (
	"math"
	"slices"
	"testing"

	"hayloft/api"
	"hayloft/index"
	"hayloft/segment"
	"hayloft/simfs"
)

// having: an index with just these entries, over a file system without a pack.
func having(t *testing.T, room int, l ...segment.Entry) (*index.Index, *simfs.FS) {
	t.Helper()
	s := fresh(t, room)
	x := opens(t, "empty", s, true)
	ok(t, x.Set(l))
	holds(t, "set", x, l...)
	return x, s
}

func TestP1104FindAndLen(t *testing.T) {
	x, s := having(t, api.MaxDisk, rising(900)...)
	for i, e := range rising(900) {
		if w, is := x.Find(e.Name); w != e.W || !is {
			t.Fatalf("entry %d: %v, %v", i, w, is)
		}
		misses(t, "beside it", x, named(2*i+1), named(2*i+3))
	}
	last := api.Hash(slices.Repeat([]byte{255}, 32))
	misses(t, "at the ends", x, api.Hash{}, named(0), named(1802), named(math.MaxInt32), last)
	near := named(2)
	near[31]++
	misses(t, "by the last byte", x, near)
	ok(t, x.Set(nil))
	misses(t, "of none", x, api.Hash{}, named(2), last)
	ok(t, x.Set([]segment.Entry{{Name: last, W: one(1, 2, 3, 4).W}, {W: one(1, 5, 6, 7).W}}))
	holds(t, "the least and the greatest", x, segment.Entry{W: one(1, 5, 6, 7).W}, segment.Entry{Name: last, W: one(1, 2, 3, 4).W})
	goesDown(t, s)
	holds(t, "down", x, segment.Entry{W: one(1, 5, 6, 7).W}, segment.Entry{Name: last, W: one(1, 2, 3, 4).W})
}

// What is asked alone does nothing to the disk.
func TestP1104AskingIsNoStep(t *testing.T) {
	x, s := having(t, 2000, rising(3)...)
	steps := s.Steps()
	ok(t, s.Arm(0))
	x.Find(named(2))
	x.Find(named(3))
	x.Len()
	x.All()
	if s.Steps() != steps || s.Down() {
		t.Error("a step was taken")
	}
}

// An index tells what it was set to, whatever becomes of the file and of packs.
func TestP1104FindHangsOnNothingElse(t *testing.T) {
	x, s := having(t, 2000, rising(3)...)
	ok(t, s.Flip("index", 9, 1))
	holds(t, "a bit is turned", x, rising(3)...)
	ok(t, s.Remove("index"))
	holds(t, "the file is gone", x, rising(3)...)
	lays(t, shelved(t, s), records(1, 2))
	holds(t, "packs are laid", x, rising(3)...)
	ok(t, x.Add(nil))
	loads(t, "saved anew", s, rising(3)...)
}

func TestP1104Add(t *testing.T) {
	x, s := having(t, api.MaxDisk, one(4, 4, 4, 4))
	ok(t, x.Add([]segment.Entry{one(9, 1, 1, 1), one(2, 2, 2, 2), one(6, 3, 3, 3)}))
	want := []segment.Entry{one(2, 2, 2, 2), one(4, 4, 4, 4), one(6, 3, 3, 3), one(9, 1, 1, 1)}
	holds(t, "ahead, between and behind", x, want...)
	ok(t, s.Up(0, nil))
	loads(t, "all is safe", s, want...)
	sees(t, "Add", s, "index")
}

func TestP1104AddOfNoEntry(t *testing.T) {
	for _, l := range [][]segment.Entry{nil, {}} {
		x, s := having(t, 2000, rising(3)...)
		steps := s.Steps()
		ok(t, s.Remove("index"), x.Add(l))
		holds(t, "as it was", x, rising(3)...)
		loads(t, "it is saved all the same", s, rising(3)...)
		if s.Steps() != steps+6 {
			t.Errorf("%d steps", s.Steps()-steps)
		}
		is(t, "set", x.Set(nil), api.OK)
		is(t, "none to none", x.Add(l), api.OK)
		holds(t, "none", x)
	}
}

func TestP1104AddOfNamesThatAreThere(t *testing.T) {
	x, s := having(t, 2000, rising(3)...)
	ok(t, x.Add([]segment.Entry{one(2, 9, 9, 9), one(6, 1, 1, 1), one(4, 9, 9, 9)}))
	holds(t, "they stay", x, rising(3)...)
	ok(t, x.Add([]segment.Entry{one(7, 7, 7, 7), one(4, 9, 9, 9), one(7, 8, 8, 8), one(7, 7, 7, 7)}))
	want := append(rising(3), one(7, 7, 7, 7))
	holds(t, "of one that is new the first", x, want...)
	ok(t, x.Add([]segment.Entry{one(2, 0, -1, 0), one(7, 1000000, 0, 0)}))
	holds(t, "places that can't be are left out too", x, want...)
	loads(t, "and saved so", s, want...)
}

// asTooLarge: Add and Set refuse it, and nothing is changed or done.
func asTooLarge(t *testing.T, what string, do func([]segment.Entry) api.Fault, l []segment.Entry, x *index.Index, s *simfs.FS) {
	t.Helper()
	all, steps := x.All(), s.Steps()
	is(t, what, do(l), api.TooLarge)
	holds(t, what, x, all...)
	loads(t, what, s, all...)
	sees(t, what, s, "index")
	if s.Steps() != steps {
		t.Errorf("%s: a step was taken", what)
	}
}

func TestP1104AddAndSetOfWhatIsNotRight(t *testing.T) {
	for what, l := range wrongPlaces() {
		x, s := having(t, api.MaxDisk, one(5000, 1, 2, 3), one(5001, 3, 2, 1))
		asTooLarge(t, what+": Add", x.Add, l, x, s)
		asTooLarge(t, what+": Set", x.Set, l, x, s)
		asTooLarge(t, what+", with right ones: Add", x.Add, append(rising(4)[2:], l...), x, s)
		asTooLarge(t, what+", with right ones: Set", x.Set, append(rising(4)[2:], l...), x, s)
		goesDown(t, s)
		is(t, what+", and down: Add", x.Add(l), api.TooLarge)
		is(t, what+", and down: Set", x.Set(l), api.TooLarge)
	}
}

func TestP1104AddBeyond900(t *testing.T) {
	x, s := having(t, api.MaxDisk, rising(898)...)
	ok(t, x.Add([]segment.Entry{one(1, 1, 1, 1)}))
	holds(t, "899", x, append([]segment.Entry{one(1, 1, 1, 1)}, rising(898)...)...)
	asTooLarge(t, "two more", x.Add, []segment.Entry{one(3, 1, 1, 1), one(5, 1, 1, 1)}, x, s)
	ok(t, x.Add([]segment.Entry{one(3, 1, 1, 1)}))
	want := append([]segment.Entry{one(1, 1, 1, 1), rising(1)[0], one(3, 1, 1, 1)}, rising(898)[1:]...)
	holds(t, "900", x, want...)
	asTooLarge(t, "one more", x.Add, []segment.Entry{one(5, 1, 1, 1)}, x, s)
	ok(t, x.Add(rising(898)), x.Add(nil))
	holds(t, "those that are there", x, want...)
}

func TestP1104Set(t *testing.T) {
	x, s := having(t, api.MaxDisk, rising(5)...)
	ok(t, x.Set([]segment.Entry{one(9, 1, 1, 1), one(2, 2, 2, 2)}))
	holds(t, "out of order", x, one(2, 2, 2, 2), one(9, 1, 1, 1))
	misses(t, "what there was", x, named(4), named(6))
	loads(t, "out of order", s, one(2, 2, 2, 2), one(9, 1, 1, 1))
	ok(t, x.Set([]segment.Entry{one(9, 5, 5, 5), one(3, 1, 1, 1), one(9, 1, 1, 1), one(3, 0, 0, 0)}))
	holds(t, "names twice: the first", x, one(3, 1, 1, 1), one(9, 5, 5, 5))
	ok(t, s.Up(0, nil))
	loads(t, "all is safe", s, one(3, 1, 1, 1), one(9, 5, 5, 5))
	asTooLarge(t, "names twice, the first can't be", x.Set, []segment.Entry{one(3, 0, 0, 0), one(3, 1, 1, 1)}, x, s)
	for _, l := range [][]segment.Entry{nil, {}} {
		ok(t, x.Set(rising(2)), x.Set(l))
		holds(t, "none", x)
		loads(t, "none", s)
	}
}

func TestP1104SetOfMany(t *testing.T) {
	x, s := having(t, api.MaxDisk, rising(2)...)
	l := rising(900)
	slices.Reverse(l)
	ok(t, x.Set(append(l, rising(900)...)))
	holds(t, "900, twice", x, rising(900)...)
	asTooLarge(t, "901", x.Set, rising(901), x, s)
	asTooLarge(t, "2000", x.Set, rising(2000), x, s)
	steps := s.Steps()
	ok(t, x.Set(rising(900)))
	if s.Steps() != steps+5 {
		t.Error("what is there already is not saved")
	}
}

// A save that has a fault leaves the index as it was, and another one can follow.
func TestP1104AddAndSetWhoseSaveHasAFault(t *testing.T) {
	for what, do := range map[string]func(x *index.Index, l []segment.Entry) api.Fault{"Add": (*index.Index).Add, "Set": (*index.Index).Set} {
		x, s := having(t, 2*len(saved(rising(2)...)), rising(2)...)
		is(t, what+": no room", do(x, rising(3)), api.NoSpace)
		holds(t, what+": no room", x, rising(2)...)
		loads(t, what+": no room", s, rising(2)...)
		is(t, what+": with room", do(x, rising(2)), api.OK)
		for steps := range 5 {
			x, s := having(t, 2000, rising(2)...)
			ok(t, s.Arm(steps))
			is(t, what+": it goes down", do(x, rising(3)), api.Down)
			holds(t, what+": it goes down", x, rising(2)...)
			is(t, what+": it is down", do(x, rising(3)), api.Down)
			holds(t, what+": it is down", x, rising(2)...)
			ok(t, s.Up(0, nil))
			loads(t, what+": nothing survives", s, rising(2)...)
			ok(t, do(x, rising(3)))
			holds(t, what+": anew", x, rising(3)...)
			loads(t, what+": anew", s, rising(3)...)
		}
	}
}
