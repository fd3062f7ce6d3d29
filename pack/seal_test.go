package pack_test

import (
	"testing"

	"hayloft/api"
	"hayloft/crc"
	"hayloft/pack"
)

// isClosed: nothing can be done with the writer any more, and nothing is done.
func isClosed(t *testing.T, what string, w *pack.Writer) {
	t.Helper()
	size, count := w.Size(), w.Count()
	notAdded(t, what, w, record(1, 1), api.Closed)
	is(t, what, w.Seal(), api.Closed)
	is(t, what, w.Abort(), api.Closed)
	far(t, what, w, size, count)
}

func TestP803Seal(t *testing.T) {
	s := fresh(t, 9000)
	w := begin(t, s, crc.New(), 7)
	add(t, w, some()...)
	size, steps := w.Size(), s.Steps()
	ok(t, w.Seal())
	sees(t, "sealed", s, "pack.7")
	has(t, "sealed", s, 7, some()...)
	far(t, "sealed", w, size, len(some()))
	if s.Steps() != steps+3 {
		t.Errorf("%d steps", s.Steps()-steps)
	}
	isClosed(t, "sealed", w)
	if s.Steps() != steps+3 {
		t.Errorf("a closed writer has done %d steps", s.Steps()-steps-3)
	}
	ok(t, s.Up(0, nil))
	has(t, "behind a crash", s, 7, some()...)
}

func TestP803SealWithNoRecord(t *testing.T) {
	s := fresh(t, 9000)
	w := begin(t, s, crc.New(), 7)
	for range 3 {
		is(t, "no record", w.Seal(), api.Early)
	}
	if s.Steps() != 1 {
		t.Errorf("%d steps", s.Steps())
	}
	sees(t, "not sealed", s, "tmp.7")
	notAdded(t, "not right", w, record(0, 1), api.BadArg)
	is(t, "still no record", w.Seal(), api.Early)
	add(t, w, record(1, 1))
	ok(t, w.Seal())
	has(t, "sealed at last", s, 7, record(1, 1))
	isClosed(t, "sealed at last", w)
}

// A writer without a record is open, whatever has become of its file system.
func TestP803SealWithNoRecordIsAheadOfTheFileSystem(t *testing.T) {
	s := fresh(t, 9000)
	w := begin(t, s, crc.New(), 7)
	ok(t, s.Arm(0))
	is(t, "armed", w.Seal(), api.Early)
	if s.Down() {
		t.Error("it is down")
	}
	is(t, "a step", s.SyncDir(), api.Down)
	is(t, "down", w.Seal(), api.Early)
	ok(t, s.Up(0, nil))
	is(t, "the file is gone", w.Seal(), api.Early)
	is(t, "the file is gone", w.Abort(), api.NotFound)
	isClosed(t, "behind Abort", w)
}

func TestP803SealWithNoRecordAndThenAbort(t *testing.T) {
	s := fresh(t, 9000)
	w := begin(t, s, crc.New(), 7)
	is(t, "no record", w.Seal(), api.Early)
	ok(t, w.Abort())
	sees(t, "given up", s)
	isClosed(t, "given up", w)
}

// Each of the three parts fails, as the disk goes down ahead of it.
func TestP803SealWhereAPartFails(t *testing.T) {
	for steps, want := range []string{"tmp.7", "tmp.7", "pack.7"} {
		s := fresh(t, 9000)
		w := begin(t, s, crc.New(), 7)
		add(t, w, some()...)
		size := w.Size()
		ok(t, s.Arm(steps))
		is(t, "down within", w.Seal(), api.Down)
		if !s.Down() {
			t.Fatalf("%d steps: it is up", steps)
		}
		far(t, "down within", w, size, len(some()))
		isClosed(t, "down within", w)
		all := s.Copy()
		ok(t, all.Up(9, []int{size}))
		sees(t, "all that was done survives", all, want)
		ok(t, s.Up(9, nil))
		isClosed(t, "up again", w)
		if pack.Name(7) == want {
			has(t, "safe ahead of its name", s, 7, some()...)
		} else if b, f := s.Read(want); f != api.OK || steps == 0 && len(b) != 0 || steps == 1 && len(b) != size {
			t.Errorf("%d steps: %d bytes, fault %d", steps, len(b), f)
		}
	}
}

func TestP803SealWhileItIsDown(t *testing.T) {
	s := fresh(t, 9000)
	w := begin(t, s, crc.New(), 7)
	add(t, w, some()...)
	ok(t, s.Arm(0))
	is(t, "a step", s.SyncDir(), api.Down)
	is(t, "down", w.Seal(), api.Down)
	isClosed(t, "down", w)
}

func TestP803SealWhereTheFileIsGone(t *testing.T) {
	s := fresh(t, 9000)
	w := begin(t, s, crc.New(), 7)
	add(t, w, some()...)
	ok(t, s.Remove("tmp.7"))
	steps := s.Steps()
	is(t, "gone", w.Seal(), api.NotFound)
	if s.Steps() != steps {
		t.Error("it goes on behind the first fault")
	}
	isClosed(t, "gone", w)
	sees(t, "gone", s)
}

// A Seal that failed keeps the temporary file, which Clean removes; then the id is free.
func TestP803SealThatFailedLeavesTheTemporaryFile(t *testing.T) {
	s, c := fresh(t, 9000), crc.New()
	w := begin(t, s, c, 7)
	add(t, w, some()...)
	ok(t, s.SyncDir(), s.Arm(0))
	is(t, "down within", w.Seal(), api.Down)
	ok(t, s.Up(0, nil))
	other, f := pack.Begin(s, c, 7)
	noWriter(t, "left", other, f, api.Exists)
	if n, f := pack.Clean(s); n != 1 || f != api.OK {
		t.Errorf("Clean: %d, fault %d", n, f)
	}
	sealedPack(t, s, 7, some()...)
	has(t, "anew", s, 7, some()...)
}

func TestP803Abort(t *testing.T) {
	s := fresh(t, 9000)
	for _, l := range [][]int{nil, {1}, {5, 0, 300}} {
		w := begin(t, s, crc.New(), 7)
		for _, n := range l {
			add(t, w, record(1, n))
		}
		size, steps := w.Size(), s.Steps()
		ok(t, w.Abort())
		if s.Steps() != steps+1 {
			t.Errorf("%d steps", s.Steps()-steps)
		}
		sees(t, "given up", s)
		far(t, "given up", w, size, len(l))
		isClosed(t, "given up", w)
	}
}

// A closed writer does not reach for a file that another one has begun under its name.
func TestP803AClosedWriterLeavesOthersAlone(t *testing.T) {
	s, c := fresh(t, 9000), crc.New()
	w := begin(t, s, c, 7)
	add(t, w, record(1, 1))
	ok(t, w.Abort())
	other := begin(t, s, c, 7)
	add(t, other, record(2, 2))
	isClosed(t, "given up", w)
	ok(t, other.Seal())
	isClosed(t, "given up", w)
	has(t, "the other's", s, 7, record(2, 2))
}

func TestP803AbortWhereTheFileIsGone(t *testing.T) {
	s := fresh(t, 9000)
	w := begin(t, s, crc.New(), 7)
	add(t, w, record(1, 1))
	ok(t, s.Remove("tmp.7"))
	is(t, "gone", w.Abort(), api.NotFound)
	isClosed(t, "gone", w)
}

func TestP803AbortWhileItIsDown(t *testing.T) {
	s := fresh(t, 9000)
	w := begin(t, s, crc.New(), 7)
	add(t, w, record(1, 1))
	ok(t, s.SyncDir(), s.Arm(0))
	is(t, "down within", w.Abort(), api.Down)
	isClosed(t, "down", w)
	ok(t, s.Up(0, nil))
	sees(t, "up again", s, "tmp.7")
	isClosed(t, "up again", w)
}

// Abort leaves other packs alone, one of the same id too, that was made behind Begin.
func TestP803AbortLeavesOthersAlone(t *testing.T) {
	s, c := fresh(t, 9000), crc.New()
	w, other := begin(t, s, c, 7), begin(t, s, c, 8)
	safeFile(t, s, "pack.7", laid(some()...))
	ok(t, w.Abort())
	sees(t, "given up", s, "pack.7", "tmp.8")
	has(t, "another one's", s, 7, some()...)
	add(t, other, record(1, 1))
	ok(t, other.Seal())
	has(t, "the other", s, 8, record(1, 1))
}
