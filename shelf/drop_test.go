package shelf_test

import (
	"math"
	"testing"

	"hayloft/api"
	"hayloft/shelf"
	"hayloft/simfs"
)

// fivePacks: a shelf with packs 1 to 5, of one record each.
func fivePacks(t *testing.T) (*shelf.Shelf, *simfs.FS) {
	t.Helper()
	s := fresh(t, 9000)
	h := open(t, s)
	for i := range 5 {
		lays(t, "one of five", h, record(1+i, 10*i))
	}
	return h, s
}

func TestP904DropNone(t *testing.T) {
	h, s := fivePacks(t)
	steps := s.Steps()
	ok(t, s.Arm(0))
	drops(t, "none", h, 0, api.OK)
	if n, f := h.Drop([]int{}); n != 0 || f != api.OK || s.Steps() != steps || s.Down() {
		t.Errorf("%d, fault %d", n, f)
	}
	stands(t, "none", h, 6, 1, 2, 3, 4, 5)
	goesDown(t, s)
	drops(t, "none, while it is down", h, 0, api.OK)
}

func TestP904DropSeveral(t *testing.T) {
	h, s := fivePacks(t)
	steps := s.Steps()
	drops(t, "one", h, 1, api.OK, 3)
	stands(t, "one", h, 6, 1, 2, 4, 5)
	drops(t, "three, in any order", h, 3, api.OK, 5, 1, 4)
	stands(t, "three", h, 6, 2)
	counts(t, "steps", int(s.Steps()-steps), 8)
	ok(t, s.Up(0, nil))
	sees(t, "behind a crash", s, "pack.2")
	holds(t, "the other one", h, s, 2, record(2, 10))
	drops(t, "the last one", h, 1, api.OK, 2)
	stands(t, "none is left", h, 6)
}

// The first fault ends it; what was dropped ahead of it is gone, and counted.
func TestP904DropWithAFaultWithin(t *testing.T) {
	for _, x := range []struct {
		what string
		ids  []int
		n    int
		want api.Fault
		left []int
	}{
		{"not there, first", []int{6, 1, 2}, 0, api.NotFound, []int{1, 2, 3, 4, 5}},
		{"not there, in the midst", []int{1, 4, 6, 2}, 2, api.NotFound, []int{2, 3, 5}},
		{"not there, last", []int{1, 2, 999999}, 2, api.NotFound, []int{3, 4, 5}},
		{"the same twice", []int{3, 3, 4}, 1, api.NotFound, []int{1, 2, 4, 5}},
		{"no id, first", []int{0, 1}, 0, api.BadArg, []int{1, 2, 3, 4, 5}},
		{"no id, in the midst", []int{5, -1, 1}, 1, api.BadArg, []int{1, 2, 3, 4}},
		{"no id, last", []int{5, 4, 3, 2, 1, 1000000}, 5, api.BadArg, nil},
		{"no id, and then not there", []int{2, math.MaxInt, 6}, 1, api.BadArg, []int{1, 3, 4, 5}},
		{"not there, and then no id", []int{2, 6, math.MinInt}, 1, api.NotFound, []int{1, 3, 4, 5}},
		{"a temporary one", []int{1, 8, 2}, 1, api.NotFound, []int{2, 3, 4, 5}},
	} {
		h, s := fivePacks(t)
		ok(t, s.Create("tmp.8"), s.SyncDir())
		drops(t, x.what, h, x.n, x.want, x.ids...)
		stands(t, x.what, h, 6, x.left...)
		ok(t, s.Up(0, nil))
		stands(t, x.what+", behind a crash", h, 6, x.left...)
	}
	h, _ := fivePacks(t)
	for _, id := range noIDs() {
		drops(t, "no id", h, 0, api.BadArg, id)
	}
	stands(t, "no id", h, 6, 1, 2, 3, 4, 5)
}

// A pack that can't be loaded can be dropped.
func TestP904DropBrokenPacks(t *testing.T) {
	h, s, want := broken(t)
	drops(t, "all that can't be loaded", h, 5, api.OK, 2, 4, 5, 7, 9)
	walks(t, "the others", h, 99, want)
	sees(t, "the others", s, "pack.08", "pack.1", "pack.10", "pack.3", "pack.6")
}

// Each drop has two steps; one that it goes down in is not counted.
func TestP904DropWhileItGoesDown(t *testing.T) {
	for steps := range 6 {
		h, s := fivePacks(t)
		ok(t, s.Arm(steps))
		drops(t, "down within", h, steps/2, api.Down, 1, 2, 3)
		if !s.Down() {
			t.Fatalf("%d steps: it is up", steps)
		}
		drops(t, "while it is down", h, 0, api.Down, 5)
		drops(t, "no id, while it is down", h, 0, api.BadArg, 0)
		ok(t, s.Up(0, nil))
		stands(t, "what was counted is gone", h, 6, []int{1, 2, 3, 4, 5}[steps/2:]...)
	}
}

func TestP904Bytes(t *testing.T) {
	s := fresh(t, api.MaxDisk)
	h := open(t, s)
	counts(t, "no pack", h.Bytes(), 0)
	for _, name := range []string{"tmp.1", "tmp.pack.1", "index", "pack.01", "pack.0", "pack.", "pack.1000000", "pack"} {
		ok(t, s.Create(name), s.Append(name, []byte("abc")))
	}
	counts(t, "no pack, and others", h.Bytes(), 0)
	ok(t, s.Remove("tmp.1"))
	lays(t, "one", h, records(10)...)
	counts(t, "one", h.Bytes(), 59)
	lays(t, "several", h, records(5000, 5000, 5000, 0)...)
	counts(t, "several", h.Bytes(), 59+3*5049+49)
	aPack(t, s, "pack.77", []byte("no record"))
	aPack(t, s, "pack.78", nil)
	counts(t, "one that can't be loaded, too", h.Bytes(), 59+3*5049+49+9)
	steps := s.Steps()
	ok(t, s.Arm(0))
	counts(t, "armed", h.Bytes(), 59+3*5049+49+9)
	if s.Steps() != steps || s.Down() {
		t.Error("Bytes is a step")
	}
	goesDown(t, s)
	counts(t, "nothing is seen while it is down", h.Bytes(), 0)
	ok(t, s.Up(0, nil))
	drops(t, "some", h, 2, api.OK, 2, 77)
	counts(t, "some are gone", h.Bytes(), 59+5049+49)
}

// Of a Lay that failed just those packs count that were sealed.
func TestP904BytesBehindALayThatFailed(t *testing.T) {
	s := fresh(t, 16000)
	h := open(t, s)
	l := records(5000, 5000, 5000, 5000)
	notLaid(t, "no room", h, l, api.NoSpace)
	counts(t, "one was sealed", h.Bytes(), 2*5049)
	counts(t, "nothing else is used", s.Used(), 2*5049)
}
