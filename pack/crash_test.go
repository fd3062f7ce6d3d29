package pack_test

import (
	"slices"
	"testing"

	"hayloft/api"
	"hayloft/crc"
	"hayloft/frame"
	"hayloft/pack"
	"hayloft/simfs"
)

// write: a pack from Begin to Seal, as far as it goes; whether Seal was OK.
func write(s *simfs.FS, id int, l []frame.Record) bool {
	w, f := pack.Begin(s, crc.New(), id)
	if f != api.OK {
		return false
	}
	for _, r := range l {
		if _, f := w.Add(r); f != api.OK {
			return false
		}
	}
	return w.Seal() == api.OK
}

// wholeOrNot: the pack is not there, or has all records; it is there, if it must be.
func wholeOrNot(t *testing.T, s *simfs.FS, id int, l []frame.Record, must bool) {
	t.Helper()
	there := slices.Contains(pack.IDs(s), id)
	if there {
		has(t, "there", s, id, l...)
		return
	}
	if must {
		t.Error("it was sealed, and is not there")
	}
	notLoaded(t, "not there", s, id, api.NotFound)
	notGot(t, "not there", s, id, 0, api.NotFound)
}

// A crash at each step from Begin to Seal, with each number of changes and of bytes that survive.
func TestP806EachCrash(t *testing.T) {
	old := []frame.Record{record(6, 20), record(7, 2)}
	first := fresh(t, 9000)
	sealedPack(t, first, 3, old...)
	sealedPack(t, first, 8, old...)
	for n := 1; n <= 3; n++ {
		l := []frame.Record{record(1, 3), record(2, 0), record(3, 7)}[:n]
		size := len(laid(l...))
		for steps := range n + 5 { // Begin, each Add, and the three parts of Seal
			for names := range 4 {
				for cut := range size + 2 {
					s := first.Copy()
					ok(t, s.Arm(steps))
					done := write(s, 7, l)
					if done != (steps == n+4) || s.Down() == done {
						t.Fatalf("%d records, %d steps: sealed %v, down %v", n, steps, done, s.Down())
					}
					ok(t, s.Up(names, slices.Repeat([]int{cut}, 5)))
					wholeOrNot(t, s, 7, l, done)
					has(t, "another one", s, 3, old...)
					has(t, "another one", s, 8, old...)
					if t.Failed() {
						t.Fatalf("%d records, %d steps, %d names, %d bytes", n, steps, names, cut)
					}
				}
			}
		}
	}
}

// Whatever survives, the way is free behind Clean: the pack is there, or is written anew.
func TestP806WrittenAnewBehindACrash(t *testing.T) {
	l := some()
	for steps := range len(l) + 5 {
		for names := range 4 {
			for _, cut := range []int{0, 1, 60, len(laid(l...))} {
				s := fresh(t, 9000)
				ok(t, s.Arm(steps))
				write(s, 7, l)
				ok(t, s.Up(names, []int{cut, cut}))
				if _, f := pack.Clean(s); f != api.OK {
					t.Fatalf("Clean: fault %d", f)
				}
				tells(t, "clean", s, pack.IDs(s), nil)
				if !slices.Contains(pack.IDs(s), 7) && !write(s, 7, l) {
					t.Fatalf("%d steps, %d names, %d bytes: not written anew", steps, names, cut)
				}
				ok(t, s.Up(0, nil))
				has(t, "there at last", s, 7, l...)
				sees(t, "nothing else", s, "pack.7")
			}
		}
	}
}

// Once Seal was OK the pack is there, whatever is done to others behind it, and wherever that ends.
func TestP806SealedAndThenOthers(t *testing.T) {
	l, other := some(), []frame.Record{record(5, 5)}
	for steps := range 20 {
		for names := range 8 {
			for _, cut := range []int{0, 1, 30, 9000} {
				s := fresh(t, 9000)
				sealedPack(t, s, 6, other...)
				if !write(s, 7, l) {
					t.Fatal("not sealed")
				}
				ok(t, s.Arm(steps))
				dropped := pack.Drop(s, 6) == api.OK
				sealed := write(s, 8, other)
				w, f := pack.Begin(s, crc.New(), 9)
				if f == api.OK {
					w.Add(record(1, 1))
					w.Abort()
				}
				pack.Begin(s, crc.New(), 10)
				pack.Clean(s)
				ok(t, s.Up(names, slices.Repeat([]int{cut}, 6)))
				has(t, "sealed", s, 7, l...)
				wholeOrNot(t, s, 6, other, steps == 0)
				wholeOrNot(t, s, 8, other, sealed)
				if dropped && slices.Contains(pack.IDs(s), 6) {
					t.Error("it was dropped, and is there")
				}
				if t.Failed() {
					t.Fatalf("%d steps, %d names, %d bytes", steps, names, cut)
				}
			}
		}
	}
}

// With no room for all of them none is there under the pack's name, till Seal.
func TestP806NoRoomWithin(t *testing.T) {
	s := fresh(t, 120)
	w := begin(t, s, crc.New(), 7)
	add(t, w, record(1, 10))
	notAdded(t, "no room", w, record(2, 20), api.NoSpace)
	tells(t, "not sealed", s, nil, []string{"tmp.7"})
	c := s.Copy()
	ok(t, c.Up(9, []int{59}))
	wholeOrNot(t, c, 7, nil, false)
	ok(t, w.Seal(), s.Up(0, nil))
	has(t, "what was laid", s, 7, record(1, 10))
}
