package pack_test

import (
	"bytes"
	"math"
	"slices"
	"testing"

	"hayloft/api"
	"hayloft/crc"
	"hayloft/frame"
	"hayloft/pack"
)

// noWriter: Begin has that fault, and no writer beside it.
func noWriter(t *testing.T, what string, w *pack.Writer, f, want api.Fault) {
	t.Helper()
	is(t, what, f, want)
	if w != nil {
		t.Errorf("%s: a writer beside fault %d", what, f)
	}
}

// notAdded: Add has that fault, no place beside it, and the writer is as it was.
func notAdded(t *testing.T, what string, w *pack.Writer, r frame.Record, want api.Fault) {
	t.Helper()
	size, count := w.Size(), w.Count()
	at, f := w.Add(r)
	is(t, what, f, want)
	if at != 0 {
		t.Errorf("%s: place %d beside fault %d", what, at, f)
	}
	far(t, what, w, size, count)
}

func TestP802BeginMakesTheTemporaryFile(t *testing.T) {
	for _, id := range []int{1, 7, 10, 999999} {
		s := fresh(t, 100)
		w := begin(t, s, crc.New(), id)
		far(t, "at first", w, 0, 0)
		sees(t, "behind Begin", s, pack.Temp(id))
		if n, f := s.Size(pack.Temp(id)); n != 0 || f != api.OK || s.Steps() != 1 {
			t.Errorf("id %d: %d bytes, fault %d, %d steps", id, n, f, s.Steps())
		}
	}
}

func TestP802BeginOfNoID(t *testing.T) {
	s := fresh(t, 100)
	for _, id := range noIDs() {
		w, f := pack.Begin(s, crc.New(), id)
		noWriter(t, "no id", w, f, api.BadArg)
	}
	sees(t, "behind all", s)
	if s.Steps() != 0 {
		t.Errorf("%d steps", s.Steps())
	}
	ok(t, s.Arm(0), s.Up(0, nil), s.Arm(0))
	is(t, "down", s.SyncDir(), api.Down)
	w, f := pack.Begin(s, crc.New(), 0)
	noWriter(t, "no id while it is down", w, f, api.BadArg)
}

func TestP802BeginWhereNamesAreTaken(t *testing.T) {
	s, c := fresh(t, 1000), crc.New()
	ok(t, s.Create("pack.7"), s.Create("tmp.8"), s.Create("pack.9"), s.Create("tmp.9"), s.Create("pack.07"), s.Create("tmp.07"))
	steps := s.Steps()
	for _, id := range []int{7, 8, 9} {
		w, f := pack.Begin(s, c, id)
		noWriter(t, "taken", w, f, api.Exists)
	}
	if s.Steps() != steps || len(s.List()) != 6 {
		t.Errorf("something was done: %q", s.List())
	}
	// A name that is taken is no step, so it does not go down.
	ok(t, s.Arm(0))
	for _, id := range []int{7, 8, 9} {
		w, f := pack.Begin(s, c, id)
		noWriter(t, "taken, and armed", w, f, api.Exists)
	}
	if s.Down() {
		t.Error("it is down")
	}
	ok(t, s.Up(9, nil))
	w := begin(t, s, c, 70)
	ok(t, w.Abort())
	begin(t, s, c, 70)
	ok(t, s.Remove("pack.9"))
	other, f := pack.Begin(s, c, 9)
	noWriter(t, "the temporary name alone", other, f, api.Exists)
	ok(t, s.Remove("tmp.9"))
	begin(t, s, c, 9)
}

func TestP802BeginWhileThePackIsWritten(t *testing.T) {
	s, c := fresh(t, 1000), crc.New()
	w := begin(t, s, c, 7)
	other, f := pack.Begin(s, c, 7)
	noWriter(t, "begun twice", other, f, api.Exists)
	add(t, w, some()[0])
	ok(t, w.Seal())
	other, f = pack.Begin(s, c, 7)
	noWriter(t, "sealed", other, f, api.Exists)
	has(t, "the first one's", s, 7, some()[0])
	ok(t, pack.Drop(s, 7))
	begin(t, s, c, 7)
}

// An empty file takes no room.
func TestP802BeginWithNoRoom(t *testing.T) {
	s := fresh(t, 0)
	w := begin(t, s, crc.New(), 1)
	notAdded(t, "no room", w, record(1, 0), api.NoSpace)
	is(t, "no record", w.Seal(), api.Early)
	ok(t, w.Abort())
	sees(t, "behind Abort", s)
}

func TestP802BeginWhileItIsDown(t *testing.T) {
	s, c := fresh(t, 1000), crc.New()
	sealedPack(t, s, 3, some()[0])
	ok(t, s.Arm(0))
	w, f := pack.Begin(s, c, 1)
	noWriter(t, "no step is left", w, f, api.Down)
	if !s.Down() {
		t.Fatal("it is up")
	}
	for _, id := range []int{1, 3} {
		w, f = pack.Begin(s, c, id)
		noWriter(t, "down", w, f, api.Down)
	}
	ok(t, s.Up(0, nil))
	sees(t, "behind Up", s, "pack.3")
	begin(t, s, c, 1)
}

func TestP802Add(t *testing.T) {
	s := fresh(t, 9000)
	w := begin(t, s, crc.New(), 5)
	var want []byte
	for i, r := range some() {
		at, f := w.Add(r)
		if at != len(want) || f != api.OK {
			t.Errorf("record %d: at %d, not %d, fault %d", i, at, len(want), f)
		}
		want = append(want, framed(r)...)
		far(t, "behind Add", w, len(want), i+1)
		if b, f := s.Read("tmp.5"); f != api.OK || !bytes.Equal(b, want) {
			t.Errorf("record %d: bytes of the temporary file are others, fault %d", i, f)
		}
	}
	sees(t, "ahead of Seal", s, "tmp.5")
	if s.Steps() != int64(1+len(some())) {
		t.Errorf("%d steps", s.Steps())
	}
}

func TestP802AddOfTheSameRecord(t *testing.T) {
	s := fresh(t, 9000)
	w := begin(t, s, crc.New(), 5)
	r := record(3, 10)
	add(t, w, r, r, r)
	far(t, "thrice", w, 3*59, 3)
	ok(t, w.Seal())
	has(t, "thrice", s, 5, r, r, r)
}

func TestP802AddOfWrongRecords(t *testing.T) {
	s := fresh(t, 90000)
	w := begin(t, s, crc.New(), 5)
	wrong := []frame.Record{
		{}, {Kind: 0, Body: []byte("x")}, {Kind: 10}, {Kind: -1}, {Kind: 257}, {Kind: math.MaxInt}, {Kind: math.MinInt},
		{Kind: 1, Body: make([]byte, api.MaxObject+1)}, {Kind: 9, Body: make([]byte, 70000)}, {Kind: 10, Body: make([]byte, api.MaxPack)},
	}
	for range 3 {
		for _, r := range wrong {
			notAdded(t, "not right", w, r, api.BadArg)
		}
		add(t, w, record(1, api.MaxObject-1600))
	}
	far(t, "nearly full", w, 3*3449, 3)
	// What is not right is told ahead of all that is kept.
	ok(t, s.Arm(0))
	notAdded(t, "not right, and armed", w, wrong[7], api.BadArg)
	if s.Down() {
		t.Error("it is down")
	}
	notAdded(t, "armed", w, record(1, 0), api.Down)
	notAdded(t, "not right, and down", w, wrong[1], api.BadArg)
	ok(t, s.Up(9, []int{api.MaxDisk}))
	if n, f := s.Size("tmp.5"); n != 3*3449 || f != api.OK {
		t.Errorf("%d bytes in the file, fault %d", n, f)
	}
}

func TestP802AddUpToMaxPack(t *testing.T) {
	s := fresh(t, api.MaxDisk)
	w := begin(t, s, crc.New(), 5)
	l := []frame.Record{record(1, api.MaxObject), record(2, api.MaxObject)}
	add(t, w, l...)
	left := api.MaxPack - 2*(api.MaxObject+49)
	notAdded(t, "a byte too much", w, record(3, left-49+1), api.TooLarge)
	notAdded(t, "much too much", w, record(3, api.MaxObject), api.TooLarge)
	l = append(l, record(4, left-49))
	add(t, w, l[2])
	far(t, "full", w, api.MaxPack, 3)
	notAdded(t, "full", w, record(1, 0), api.TooLarge)
	notAdded(t, "full, and not right", w, record(0, 0), api.BadArg)
	ok(t, w.Seal())
	far(t, "sealed", w, api.MaxPack, 3)
	has(t, "full", s, 5, l...)
}

func TestP802AddLeavesLessThanARecord(t *testing.T) {
	s := fresh(t, api.MaxDisk)
	w := begin(t, s, crc.New(), 5)
	l := []frame.Record{record(1, api.MaxObject), record(2, api.MaxObject), record(3, api.MaxPack-2*(api.MaxObject+49)-49-48)}
	add(t, w, l...)
	far(t, "nearly full", w, api.MaxPack-48, 3)
	notAdded(t, "a byte too much", w, record(1, 0), api.TooLarge)
	// TooLarge is told ahead of what the file system says.
	ok(t, s.Arm(0))
	notAdded(t, "too large, and armed", w, record(1, 0), api.TooLarge)
	if s.Down() {
		t.Error("it is down")
	}
	is(t, "a step", s.SyncDir(), api.Down)
	notAdded(t, "too large, and down", w, record(1, 0), api.TooLarge)
}

func TestP802AddWithNoRoom(t *testing.T) {
	s := fresh(t, 200)
	w := begin(t, s, crc.New(), 5)
	add(t, w, record(1, 51))
	notAdded(t, "a byte too much", w, record(2, 52), api.NoSpace)
	add(t, w, record(2, 1))
	notAdded(t, "one that would fit a bit ago", w, record(2, 51), api.NoSpace)
	add(t, w, record(3, 1))
	far(t, "full", w, 200, 3)
	notAdded(t, "full", w, record(1, 0), api.NoSpace)
	ok(t, w.Seal())
	has(t, "full", s, 5, record(1, 51), record(2, 1), record(3, 1))
}

// TooLarge stands ahead of NoSpace.
func TestP802AddTooLargeWithNoRoom(t *testing.T) {
	s := fresh(t, 10100)
	w := begin(t, s, crc.New(), 5)
	add(t, w, record(1, api.MaxObject), record(2, api.MaxObject))
	notAdded(t, "no room", w, record(3, 1000), api.NoSpace)
	notAdded(t, "no room, and too large", w, record(3, 2000), api.TooLarge)
}

func TestP802AddWhileItIsDown(t *testing.T) {
	s := fresh(t, 1000)
	w := begin(t, s, crc.New(), 5)
	add(t, w, record(1, 5))
	ok(t, s.SyncDir(), s.Fsync("tmp.5"), s.Arm(0))
	notAdded(t, "no step is left", w, record(1, 6), api.Down)
	notAdded(t, "down", w, record(1, 6), api.Down)
	ok(t, s.Up(0, nil))
	// All that was there was safe, so the writer goes on.
	add(t, w, record(1, 7))
	ok(t, w.Seal())
	has(t, "up again", s, 5, record(1, 5), record(1, 7))
}

func TestP802AddWhereTheFileIsGone(t *testing.T) {
	s := fresh(t, 1000)
	w := begin(t, s, crc.New(), 5)
	add(t, w, record(1, 5))
	ok(t, s.Remove("tmp.5"))
	notAdded(t, "gone", w, record(1, 6), api.NotFound)
	sees(t, "not made anew", s)
}

// A fault of Add does not close the writer.
func TestP802AddGoesOnBehindFaults(t *testing.T) {
	s := fresh(t, 150)
	w := begin(t, s, crc.New(), 5)
	notAdded(t, "not right", w, frame.Record{}, api.BadArg)
	notAdded(t, "no room", w, record(1, 500), api.NoSpace)
	add(t, w, record(1, 5))
	notAdded(t, "not right", w, frame.Record{Kind: 10}, api.BadArg)
	notAdded(t, "no room", w, record(1, 500), api.NoSpace)
	add(t, w, record(2, 6))
	ok(t, w.Seal())
	has(t, "behind faults", s, 5, record(1, 5), record(2, 6))
}

func TestP802AddOfAClosedWriter(t *testing.T) {
	s := fresh(t, 9000)
	for what, end := range map[string]func(w *pack.Writer) api.Fault{
		"Seal":  (*pack.Writer).Seal,
		"Abort": (*pack.Writer).Abort,
	} {
		w := begin(t, s, crc.New(), 5)
		add(t, w, some()...)
		size, count := w.Size(), w.Count()
		ok(t, end(w))
		names := s.List()
		for _, r := range []frame.Record{record(1, 5), {}, {Kind: 1, Body: make([]byte, 70000)}, record(1, api.MaxObject)} {
			notAdded(t, "behind "+what, w, r, api.Closed)
		}
		far(t, "behind "+what, w, size, count)
		if !slices.Equal(s.List(), names) {
			t.Errorf("behind %s: %q", what, s.List())
		}
		pack.Drop(s, 5)
	}
}

// Two writers beside each other do not meet.
func TestP802TwoWriters(t *testing.T) {
	s, c := fresh(t, 9000), crc.New()
	a, b := begin(t, s, c, 1), begin(t, s, c, 11)
	add(t, a, record(1, 1))
	add(t, b, record(2, 2), record(2, 3))
	add(t, a, record(1, 4))
	far(t, "the first", a, 103, 2)
	far(t, "the second", b, 103, 2)
	ok(t, b.Seal())
	add(t, a, record(1, 5))
	sees(t, "one is sealed", s, "pack.11", "tmp.1")
	ok(t, a.Seal())
	has(t, "the first", s, 1, record(1, 1), record(1, 4), record(1, 5))
	has(t, "the second", s, 11, record(2, 2), record(2, 3))
}
