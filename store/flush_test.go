package store_test

import (
	"maps"
	"slices"
	"testing"

	"hayloft/api"
	"hayloft/simfs"
	"hayloft/store"
)

func TestP1204FlushOfNothing(t *testing.T) {
	s := fresh(t, 5000)
	o := open(t, s)
	steps := s.Steps()
	flushes(t, "empty", o, 0)
	if s.Steps() != steps {
		t.Error("empty: a step was taken")
	}
	sees(t, "empty", s, "index")
	holding(t, s, objects(3, 4))
	o = open(t, s)
	before := snapshot(s)
	flushes(t, "of none that wait", o, 0)
	ok(t, s.Remove("index"))
	flushes(t, "of none that wait, with no index", o, 0)
	delete(before, "index")
	if !maps.Equal(before, snapshot(s)) {
		t.Error("something was done")
	}
	goesDown(t, s)
	flushes(t, "of none that wait, down", o, 0)
}

// Records stand in the order of Put, and the index tells where.
func TestP1204Flush(t *testing.T) {
	s := fresh(t, api.MaxDisk)
	o := open(t, s)
	l := objects(9, 0, 5000, 3, 64, 8, 7)
	for n := range l {
		counts(t, "Pending", o.Pending(), n)
		puts(t, "put", o, l[n], l[0], l[n])
	}
	sees(t, "nothing is laid ahead of Flush", s, "index")
	flushes(t, "some", o, 7)
	packsAre(t, "some", s, 1, l)
	indexed(t, "some", s, 1, l)
	sees(t, "some", s, "index", "pack.1")
	has(t, "some", o, l...)
	more := objects(100, 50)
	puts(t, "more", o, more[0], l[3], more[1])
	counts(t, "more", o.Pending(), 2)
	flushes(t, "more", o, 2)
	packsAre(t, "more", s, 1, l, more)
	indexed(t, "more", s, 1, l, more)
	ok(t, s.Up(0, nil))
	has(t, "all is safe", open(t, s), append(l, more...)...)
}

// Records, a pack's making and sealing, and the index's saving are all the steps.
func TestP1204StepsOfFlush(t *testing.T) {
	s := fresh(t, api.MaxDisk)
	o := open(t, s)
	puts(t, "put", o, objects(1, 2, 3)...)
	steps := s.Steps()
	flushes(t, "three", o, 3)
	counts(t, "steps", int(s.Steps()-steps), 3+4+5)
}

func TestP1204FlushOfSeveralPacks(t *testing.T) {
	s := fresh(t, api.MaxDisk)
	o := open(t, s)
	l := objects(5000, 5000, 1853, 5000, 5000, 1854, 7)
	packs := parts(l...)
	counts(t, "packs", len(packs), 3)
	puts(t, "put", o, l...)
	flushes(t, "several packs", o, 7)
	sees(t, "several packs", s, "index", "pack.1", "pack.2", "pack.3")
	packsAre(t, "several packs", s, 1, packs...)
	indexed(t, "several packs", s, 1, packs...)
	has(t, "several packs", o, l...)
	has(t, "another one", open(t, s), l...)
}

// No room for the first pack, for the second one, or for the index.
func TestP1204FlushWithNoRoom(t *testing.T) {
	l := objects(5000, 5000, 1853, 900)
	// found: how many another Open finds, once there is more room.
	for _, x := range []struct {
		what  string
		room  int
		files []string
		found int
	}{
		{"nothing", 8, []string{"index"}, 0},
		{"the first pack", 11000, []string{"index"}, 0},
		{"the second pack", 12500, []string{"index", "pack.1"}, 3},
		{"the index", 12000 + 949 + 20, []string{"index", "pack.1", "pack.2", "tmp.index"}, 4},
	} {
		s := fresh(t, x.room)
		o := open(t, s)
		puts(t, x.what, o, l...)
		notFlushed(t, x.what, o, api.NoSpace, l...)
		sees(t, x.what, s, x.files...)
		indexed(t, x.what, s, 1)
		p := open(t, moved(t, s, api.MaxDisk))
		has(t, x.what+": another Open", p, l[:x.found]...)
		puts(t, x.what+": another Open", p, l...)
		counts(t, x.what+": another Open", p.Pending(), 4-x.found)
	}
}

// What a flush with no room laid stays; the same store lays all anew once there is room.
func TestP1204FlushAnewBehindNoRoom(t *testing.T) {
	s := fresh(t, 30000)
	l := objects(5000, 5000, 1853, 900)
	put(t, s, "hay", make([]byte, 17500))
	o := open(t, s)
	puts(t, "put", o, l...)
	notFlushed(t, "no room", o, api.NoSpace, l...)
	sees(t, "no room", s, "hay", "index", "pack.1")
	notFlushed(t, "no room", o, api.NoSpace, l...)
	ok(t, s.Remove("hay"))
	flushes(t, "room", o, 4)
	packsAre(t, "room", s, 1, l[:3])
	indexed(t, "room", s, 4, parts(l...)...)
	has(t, "room", o, l...)
	has(t, "another one", open(t, s), l...)
	spoilt(t, "another one", open(t, s))
}

// downAhead: a flush of l goes down behind so many steps; the store, and its file system then.
func downAhead(t *testing.T, first *simfs.FS, steps int, l []store.Object) (*store.Store, *simfs.FS) {
	t.Helper()
	s := first.Copy()
	o := open(t, s)
	puts(t, "put", o, l...)
	ok(t, s.Arm(steps))
	notFlushed(t, "down", o, api.Down, l...)
	if !s.Down() || s.Steps() != first.Steps()+int64(steps) {
		t.Fatalf("%d steps: Down %v, Steps %d", steps, s.Down(), s.Steps()-first.Steps())
	}
	return o, s
}

// The system goes down ahead of each step: all still wait, and are laid once it is up; another
// Open finds what was laid.
func TestP1204FlushThatGoesDown(t *testing.T) {
	first := fresh(t, api.MaxDisk)
	old := objects(8, 9)
	holding(t, first, old)
	l := objects(5000, 5000, 1853, 900, 7)
	packs := parts(l...)
	all := len(l) + 4*len(packs) + 5
	for steps := range all {
		o, s := downAhead(t, first, steps, l)
		notFlushed(t, "still down", o, api.Down, l...)
		namesAre(t, "still down", o, names(append(l, old...)...)...)
		ok(t, s.Up(99, slices.Repeat([]int{99999}, 9)))
		laid := l[:0]
		if steps >= 3+3 { // the first pack's making, its records, its Fsync and its Rename
			laid = l[:3]
		}
		if steps >= 3+4+2+3 {
			laid = l
		}
		c := s.Copy()
		has(t, "another one", open(t, c), append(slices.Clone(laid), old...)...)
		flushes(t, "up again", o, len(l))
		has(t, "up again", o, append(l, old...)...)
		ok(t, s.Up(0, nil))
		has(t, "up again, another one", open(t, s), append(l, old...)...)
		if t.Failed() {
			t.Fatalf("%d steps", steps)
		}
	}
	s := first.Copy()
	o := open(t, s)
	puts(t, "put", o, l...)
	ok(t, s.Arm(all))
	flushes(t, "all steps", o, len(l))
}

// More than an index can tell: what was laid stays, and all still wait.
func TestP1204FlushOfTooMany(t *testing.T) {
	s := fresh(t, api.MaxDisk)
	l := small(901)
	o := open(t, s)
	puts(t, "900", o, l[:900]...)
	flushes(t, "900", o, 900)
	namesAre(t, "900", open(t, s), names(l[:900]...)...)
	puts(t, "901", o, l[900])
	notFlushed(t, "901", o, api.TooLarge, l[900])
	packsAre(t, "901", s, 5, l[900:])
	indexed(t, "901", s, 1, parts(l[:900]...)...)
	namesAre(t, "901", o, names(l...)...)
	notOpened(t, "901", s, api.TooLarge)
}

// No id is left for a pack.
func TestP1204FlushBehindTheLastPack(t *testing.T) {
	s := fresh(t, api.MaxDisk)
	put(t, s, "pack.999998", frames(object(1, 1)))
	o := open(t, s)
	l := objects(5000, 5000, 5000)
	puts(t, "two packs", o, l...)
	notFlushed(t, "two packs", o, api.TooLarge, l...)
	sees(t, "two packs", s, "index", "pack.999998")
	o = open(t, s)
	puts(t, "one pack", o, l[0])
	flushes(t, "one pack", o, 1)
	packsAre(t, "one pack", s, 999999, l[:1])
	puts(t, "one more", o, l[1])
	notFlushed(t, "one more", o, api.TooLarge, l[1])
}

func TestP1204Pending(t *testing.T) {
	s := fresh(t, api.MaxDisk)
	o := open(t, s)
	for n := range 20 {
		counts(t, "Pending", o.Pending(), n)
		o.Put(object(0, n))
		puts(t, "put", o, object(1, n), object(1, 0))
	}
	goesDown(t, s)
	counts(t, "down", o.Pending(), 20)
	ok(t, s.Up(0, nil))
	counts(t, "up", o.Pending(), 20)
	flushes(t, "flushed", o, 20)
	puts(t, "one more", o, object(2, 2))
	counts(t, "one more", o.Pending(), 1)
}
