package store_test

import (
	"maps"
	"testing"

	"hayloft/api"
	"hayloft/crc"
	"hayloft/frame"
	"hayloft/shelf"
	"hayloft/simfs"
	"hayloft/store"
)

func TestP1201OpenOfAnEmptySystem(t *testing.T) {
	s := fresh(t, 100)
	o := open(t, s)
	if o.FS() != s {
		t.Error("FS is another one")
	}
	has(t, "empty", o)
	counts(t, "Pending", o.Pending(), 0)
	counts(t, "Bytes", o.Bytes(), 0)
	spoilt(t, "empty", o)
	sees(t, "empty", s, "index")
	indexed(t, "empty", s, 1)
}

func TestP1201OpenAnew(t *testing.T) {
	s := fresh(t, api.MaxDisk)
	l := objects(3, 0, 77)
	o := holding(t, s, l[:2], l[2:])
	puts(t, "waits", o, object(9, 9))
	steps := s.Steps()
	p := open(t, s)
	has(t, "another one", p, l...)
	counts(t, "nothing waits in another one", p.Pending(), 0)
	counts(t, "but in the first one", o.Pending(), 1)
	if s.Steps() != steps {
		t.Error("a step was taken, though nothing was to be done")
	}
	if p.FS() != s {
		t.Error("FS is another one")
	}
}

// FS is the one that was given, whatever becomes of it.
func TestP1201FS(t *testing.T) {
	s, other := fresh(t, 500), fresh(t, 500)
	o, p := open(t, s), open(t, other)
	if o.FS() != s || p.FS() != other {
		t.Error("FS is another one")
	}
	goesDown(t, s)
	if o.FS() != s {
		t.Error("FS is another one, since it is down")
	}
}

func TestP1201OpenCleansUp(t *testing.T) {
	s := fresh(t, api.MaxDisk)
	l := objects(3, 4)
	holding(t, s, l)
	put(t, s, "tmp.7", []byte("left"))
	put(t, s, "tmp.index", []byte("left"))
	has(t, "another one", open(t, s), l...)
	sees(t, "another one", s, "index", "pack.1")
}

func TestP1201OpenOfNoIndex(t *testing.T) {
	l := objects(3, 0, 77, 5000)
	for what, spoil := range map[string]func(s *simfs.FS) api.Fault{
		"gone":          func(s *simfs.FS) api.Fault { return s.Remove("index") },
		"a bit turned":  func(s *simfs.FS) api.Fault { return s.Flip("index", 9, 1) },
		"something":     func(s *simfs.FS) api.Fault { return s.Append("index", []byte{0}) },
		"another one's": func(s *simfs.FS) api.Fault { s.Remove("index"); return s.Rename("old", "index") },
	} {
		s := fresh(t, api.MaxDisk)
		o := holding(t, s)
		put(t, s, "old", file(s, "index"))
		puts(t, what, o, l...)
		flushes(t, what, o, 4)
		ok(t, spoil(s))
		has(t, what, open(t, s), l...)
		indexed(t, what, s, 1, l)
	}
}

// Packs that no store has laid.
func TestP1201OpenOfPacksAlone(t *testing.T) {
	s := fresh(t, api.MaxDisk)
	l := objects(3, 0, 77)
	put(t, s, "pack.4", frames(l[0], l[1]))
	put(t, s, "pack.30", frames(l[1], l[2]))
	o := open(t, s)
	has(t, "packs alone", o, l...)
	puts(t, "one more", o, object(8, 8))
	flushes(t, "one more", o, 1)
	packsAre(t, "one more, behind the greatest pack", s, 31, []store.Object{object(8, 8)})
}

// Of a pack that can't be loaded nothing is there, but its bytes are.
func TestP1201OpenOfPacksThatCantBeLoaded(t *testing.T) {
	s := fresh(t, api.MaxDisk)
	a, b := objects(3, 4, 5), objects(30, 40)
	holding(t, s, a, b)
	ok(t, s.Flip("pack.1", 60, 4))
	put(t, s, "pack.3", nil)
	put(t, s, "pack.4", []byte("hay"))
	o := open(t, s)
	has(t, "the other one", o, b...)
	notGot(t, "the broken one", o, api.NotFound, names(a...)...)
	spoilt(t, "what is not there is not spoilt", o)
	counts(t, "Bytes", o.Bytes(), len(frames(a...))+len(frames(b...))+3)
	puts(t, "put anew", o, a...)
	flushes(t, "put anew", o, 3)
	has(t, "put anew", open(t, s), append(a, b...)...)
	packsAre(t, "put anew", s, 5, a)
}

func TestP1201OpenOfASystemThatIsDown(t *testing.T) {
	for what, lay := range map[string]func(s *simfs.FS){
		"empty":                func(s *simfs.FS) {},
		"with packs":           func(s *simfs.FS) { holding(t, s, objects(3, 4)) },
		"with something begun": func(s *simfs.FS) { put(t, s, "tmp.3", nil) },
	} {
		s := fresh(t, 5000)
		lay(s)
		goesDown(t, s)
		notOpened(t, what, s, api.Down)
	}
}

// Open goes down ahead of each step that it takes: shelf's, which cleans up, and index's.
func TestP1201OpenThatGoesDown(t *testing.T) {
	first := fresh(t, 5000)
	l := objects(3, 4)
	holding(t, first, l)
	put(t, first, "tmp.3", nil)
	ok(t, first.Remove("index"), first.SyncDir())
	for steps := range 7 {
		s := first.Copy()
		ok(t, s.Arm(steps))
		notOpened(t, "armed", s, api.Down)
		if !s.Down() || s.Steps() != first.Steps()+int64(steps) {
			t.Errorf("%d steps: Down %v, Steps %d", steps, s.Down(), s.Steps()-first.Steps())
		}
		ok(t, s.Up(0, nil))
		has(t, "up again", open(t, s), l...)
	}
	ok(t, first.Arm(7))
	has(t, "all steps", open(t, first), l...)
}

// Shelf's fault is told ahead of index's.
func TestP1201OpenWithNoRoom(t *testing.T) {
	s := fresh(t, 200)
	put(t, s, "pack.1", frames(object(1, 3), object(1, 4)))
	notOpened(t, "an index of 2 has no room", s, api.NoSpace)
	put(t, s, "tmp.1", nil)
	ok(t, s.Arm(0))
	notOpened(t, "down, and no room", s, api.Down)
	notOpened(t, "no room at all", fresh(t, 6), api.NoSpace)
	has(t, "room for an empty index", open(t, fresh(t, 7)))
}

func TestP1201OpenOfTooMany(t *testing.T) {
	for n, want := range map[int]api.Fault{900: api.OK, 901: api.TooLarge} {
		s := fresh(t, api.MaxDisk)
		h, f := shelf.Open(s, crc.New())
		ok(t, f)
		var l []frame.Record
		for _, x := range small(n) {
			l = append(l, record(x))
		}
		_, f = h.Lay(l)
		ok(t, f)
		before := snapshot(s)
		if want == api.OK {
			namesAre(t, "900", open(t, s), names(small(n)...)...)
			continue
		}
		notOpened(t, "901", s, want)
		if !maps.Equal(snapshot(s), before) {
			t.Error("901: something was done")
		}
	}
}

// Two stores over two file systems share nothing.
func TestP1201TwoStores(t *testing.T) {
	o, p := open(t, fresh(t, 5000)), open(t, fresh(t, 5000))
	puts(t, "the first one", o, objects(1, 2, 3)...)
	puts(t, "the other one", p, object(9, 9))
	flushes(t, "the first one", o, 3)
	has(t, "the first one", o, objects(1, 2, 3)...)
	has(t, "the other one", p, object(9, 9))
	counts(t, "the other one", p.Pending(), 1)
	counts(t, "the other one", p.Bytes(), 0)
}
