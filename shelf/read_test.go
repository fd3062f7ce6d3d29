package shelf_test

import (
	"math"
	"testing"

	"hayloft/api"
	"hayloft/crc"
	"hayloft/pack"
	"hayloft/shelf"
	"hayloft/simfs"
)

func TestP903Read(t *testing.T) {
	s := fresh(t, api.MaxDisk)
	h := open(t, s)
	l := records(0, 5000, 17, 5000, 3, 5000, 1)
	places := lays(t, "several packs", h, l...)
	steps := s.Steps()
	ok(t, s.Arm(0))
	for i := len(l) - 1; i >= 0; i-- {
		reads(t, "in any order", h, places[i:i+1], l[i])
	}
	if s.Steps() != steps || s.Down() {
		t.Error("Read is a step")
	}
}

func TestP903ReadWithAnotherLength(t *testing.T) {
	s := fresh(t, 9000)
	h := open(t, s)
	l := records(10, 0, 10)
	places := lays(t, "three", h, l...)
	for i, w := range places {
		for n := 1; n < 130; n++ {
			w.Len = n
			if n == places[i].Len {
				reads(t, "its length", h, []shelf.Where{w}, l[i])
			} else {
				notRead(t, "another length", h, w, api.Corrupt)
			}
		}
		for _, n := range []int{math.MaxInt, math.MaxInt32, api.MaxPack, api.MaxPack + 1} {
			w.Len = n
			notRead(t, "a great length", h, w, api.Corrupt)
		}
	}
}

// A length below 1 is told ahead of all that else is wrong.
func TestP903ReadWithNoLength(t *testing.T) {
	s := fresh(t, 9000)
	h := open(t, s)
	places := lays(t, "two", h, records(10, 0)...)
	lengths := []int{0, -1, -59, math.MinInt}
	for _, n := range lengths {
		for _, w := range []shelf.Where{places[0], places[1], {Pack: 1, At: 7}, {Pack: 2}, {Pack: 0}, {Pack: 1, At: -1}, {}} {
			w.Len = n
			notRead(t, "no length", h, w, api.BadArg)
		}
	}
	goesDown(t, s)
	for _, n := range lengths {
		notRead(t, "no length, and down", h, shelf.Where{Pack: 1, Len: n}, api.BadArg)
	}
}

func TestP903ReadAtNoPlace(t *testing.T) {
	s := fresh(t, 9000)
	h := open(t, s)
	lays(t, "two", h, records(10, 0)...)
	ok(t, s.Create("pack.2"))
	for _, at := range []int{-1, -59, math.MinInt, 108, 109, 1000, math.MaxInt} {
		notRead(t, "no place", h, shelf.Where{Pack: 1, At: at, Len: 59}, api.BadArg)
		notRead(t, "no place of an empty file", h, shelf.Where{Pack: 2, At: at, Len: 49}, api.BadArg)
	}
	notRead(t, "no place of an empty file", h, shelf.Where{Pack: 2, At: 0, Len: 49}, api.BadArg)
	for at := range 108 {
		if at != 0 && at != 59 {
			notRead(t, "within a frame", h, shelf.Where{Pack: 1, At: at, Len: 108 - at}, api.Corrupt)
		}
	}
}

func TestP903ReadOfNoPack(t *testing.T) {
	s := fresh(t, 9000)
	h := open(t, s)
	places := lays(t, "one", h, records(10)...)
	ok(t, s.Create("tmp.2"), s.Create("pack.0"), s.Create("pack.1000000"))
	for _, id := range []int{2, 3, 11, 999999} {
		notRead(t, "not there", h, shelf.Where{Pack: id, At: 0, Len: 59}, api.NotFound)
		notRead(t, "not there, at no place", h, shelf.Where{Pack: id, At: -1, Len: 59}, api.NotFound)
	}
	for _, id := range noIDs() {
		notRead(t, "no id", h, shelf.Where{Pack: id, At: 0, Len: 59}, api.BadArg)
	}
	drops(t, "it", h, 1, api.OK, 1)
	notRead(t, "dropped", h, places[0], api.NotFound)
	goesDown(t, s)
	notRead(t, "down", h, places[0], api.Down)
	notRead(t, "no id, and down", h, shelf.Where{Pack: 0, Len: 1}, api.BadArg)
}

// A byte is turned anywhere: its record is not read, the others are, and the pack is not loaded.
func TestP903TurnedBytes(t *testing.T) {
	l := records(10, 0, 3)
	for at := range size(l...) {
		for _, by := range []byte{1, 0x80, 0xFF} {
			s := fresh(t, 9000)
			h := open(t, s)
			places := lays(t, "three", h, l...)
			ok(t, s.Flip("pack.1", at, by))
			for i, w := range places {
				if at < w.At || at >= w.At+w.Len {
					reads(t, "another one", h, places[i:i+1], l[i])
				} else {
					notRead(t, "turned", h, w, api.Corrupt)
				}
			}
			notLoaded(t, "turned", h, 1, api.Corrupt)
			ok(t, s.Flip("pack.1", at, by))
			reads(t, "turned back", h, places, l...)
		}
	}
}

func TestP903Load(t *testing.T) {
	s := fresh(t, api.MaxDisk)
	h := open(t, s)
	l := records(5000, 5000, 1, 0, 5000, 20)
	lays(t, "two", h, l...)
	ok(t, s.Create("pack.7"), s.Create("tmp.8"))
	steps := s.Steps()
	ok(t, s.Arm(0))
	holds(t, "the first", h, s, 1, l[:4]...)
	holds(t, "the second", h, s, 2, l[4:]...)
	notLoaded(t, "an empty one", h, 7, api.Corrupt)
	for _, id := range []int{3, 8, 10, 999999} {
		notLoaded(t, "not there", h, id, api.NotFound)
	}
	for _, id := range noIDs() {
		notLoaded(t, "no id", h, id, api.BadArg)
	}
	if s.Steps() != steps || s.Down() {
		t.Error("Load is a step")
	}
	is(t, "a step", s.SyncDir(), api.Down)
	notLoaded(t, "down", h, 1, api.Down)
	notLoaded(t, "no id, and down", h, 0, api.BadArg)
	ok(t, s.Up(0, nil))
	holds(t, "up again", h, s, 2, l[4:]...)
}

// aPack makes one by hand, with these bytes, as no Lay does.
func aPack(t *testing.T, s *simfs.FS, name string, b []byte) {
	t.Helper()
	ok(t, s.Create(name), s.Append(name, b), s.Fsync(name), s.SyncDir())
}

// broken: packs 2, 4 and 5, 7, 9 of nine are such as can't be loaded, each in a way of its own.
func broken(t *testing.T) (*shelf.Shelf, *simfs.FS, []shelf.Found) {
	t.Helper()
	s := fresh(t, api.MaxDisk)
	l := records(1, 2, 3, 4, 5)
	aPack(t, s, "pack.1", frames(l[:2]...))
	aPack(t, s, "pack.2", nil)
	aPack(t, s, "pack.3", frames(l[2]))
	aPack(t, s, "pack.4", append(frames(l...), 3))
	aPack(t, s, "pack.5", frames(l...)[1:])
	aPack(t, s, "pack.6", frames(l[3], l[4]))
	aPack(t, s, "pack.7", frames(l...))
	ok(t, s.Flip("pack.7", 200, 4))
	aPack(t, s, "pack.10", frames(l[0]))
	aPack(t, s, "pack.9", []byte("none"))
	aPack(t, s, "pack.08", frames(l...))
	want := []shelf.Found{
		{W: shelf.Where{Pack: 1, At: 0, Len: 50}, R: l[0]},
		{W: shelf.Where{Pack: 1, At: 50, Len: 51}, R: l[1]},
		{W: shelf.Where{Pack: 3, At: 0, Len: 52}, R: l[2]},
		{W: shelf.Where{Pack: 6, At: 0, Len: 53}, R: l[3]},
		{W: shelf.Where{Pack: 6, At: 53, Len: 54}, R: l[4]},
		{W: shelf.Where{Pack: 10, At: 0, Len: 50}, R: l[0]},
	}
	return open(t, s), s, want
}

func TestP903Walk(t *testing.T) {
	s := fresh(t, api.MaxDisk)
	h := open(t, s)
	for _, most := range []int{math.MinInt, -1, 0, 1, 9, math.MaxInt} {
		walks(t, "no pack", h, most, nil)
	}
	l := records(5000, 5000, 1, 0, 5000, 20)
	want := found(lays(t, "two packs", h, l...), l)
	steps := s.Steps()
	ok(t, s.Arm(0))
	for most := range len(l) + 3 {
		walks(t, "two packs", h, most, want[:min(most, len(l))])
	}
	for _, most := range []int{math.MinInt, -6, -1} {
		walks(t, "none", h, most, nil)
	}
	walks(t, "all", h, math.MaxInt, want)
	if s.Steps() != steps || s.Down() {
		t.Error("Walk is a step")
	}
	is(t, "a step", s.SyncDir(), api.Down)
	walks(t, "nothing is seen while it is down", h, 9, nil)
}

// Packs are gone through by their ids, not by their names.
func TestP903WalkRises(t *testing.T) {
	s := fresh(t, api.MaxDisk)
	for _, id := range []int{999999, 100, 9, 10, 1} {
		aPack(t, s, pack.Name(id), frames(record(1+id%9, 7)))
	}
	var want []shelf.Found
	for _, id := range []int{1, 9, 10, 100, 999999} {
		want = append(want, shelf.Found{W: shelf.Where{Pack: id, Len: 56}, R: record(1+id%9, 7)})
	}
	walks(t, "rising", open(t, s), 99, want)
}

// Which packs that can't be loaded are told: those ahead of the last record, or all.
func TestP903WalkWithBrokenPacks(t *testing.T) {
	h, s, want := broken(t)
	walks(t, "below none", h, -1, nil)
	walks(t, "none", h, 0, nil)
	walks(t, "one", h, 1, want[:1])
	walks(t, "all of the first pack", h, 2, want[:2])
	walks(t, "one behind a broken one", h, 3, want[:3], 2)
	walks(t, "one behind two more", h, 4, want[:4], 2, 4, 5)
	walks(t, "two of that pack", h, 5, want[:5], 2, 4, 5)
	walks(t, "just all", h, 6, want, 2, 4, 5, 7, 9)
	walks(t, "one more", h, 7, want, 2, 4, 5, 7, 9)
	ok(t, s.Remove("pack.10"))
	walks(t, "just all, and two broken behind them", h, 5, want[:5], 2, 4, 5)
	walks(t, "one more, and two broken behind them", h, 6, want[:5], 2, 4, 5, 7, 9)
	walks(t, "very many", h, math.MaxInt, want[:5], 2, 4, 5, 7, 9)
	ok(t, s.Remove("pack.1"))
	walks(t, "a broken one is ahead of all", h, 1, want[2:3], 2)
	ok(t, s.Remove("pack.3"), s.Remove("pack.6"))
	walks(t, "all are broken, none", h, 0, nil)
	walks(t, "all are broken, one", h, 1, nil, 2, 4, 5, 7, 9)
	walks(t, "all are broken, many", h, 99, nil, 2, 4, 5, 7, 9)
}

// Where none is asked no pack is looked at: no byte is summed.
func TestP903WalkLooksAtNone(t *testing.T) {
	s := fresh(t, api.MaxDisk)
	c := crc.New()
	h, f := shelf.Open(s, c)
	ok(t, f)
	lays(t, "two packs", h, records(5000, 5000, 5000)...)
	done := c.Done()
	for _, most := range []int{0, -1, math.MinInt} {
		walks(t, "none", h, most, nil)
	}
	if c.Done() != done {
		t.Errorf("%d bytes", c.Done()-done)
	}
}
