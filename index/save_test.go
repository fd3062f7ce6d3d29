package index_test

import (
	"bytes"
	"testing"

	"hayloft/api"
	"hayloft/crc"
	"hayloft/index"
	"hayloft/segment"
)

func TestP1101LoadOfNoFile(t *testing.T) {
	s := fresh(t, 100)
	notLoaded(t, "nothing", s, api.NotFound)
	put(t, s, "tmp.index", saved())
	put(t, s, "Index", saved())
	put(t, s, "index.", saved())
	put(t, s, "pack.1", saved())
	notLoaded(t, "other names", s, api.NotFound)
}

func TestP1101LoadOfEntries(t *testing.T) {
	s := fresh(t, api.MaxDisk)
	for _, n := range []int{0, 1, 2, 17, 899, 900} {
		put(t, s, "index", saved(rising(n)...))
		steps := s.Steps()
		loads(t, "some", s, rising(n)...)
		if s.Steps() != steps || !bytes.Equal(file(s, "index"), saved(rising(n)...)) {
			t.Errorf("%d entries: Load has done something", n)
		}
	}
}

func TestP1101LoadOfWhatIsNotSealed(t *testing.T) {
	s := fresh(t, 2000)
	whole := saved(rising(3)...)
	for n := range whole {
		put(t, s, "index", whole[:n])
		want := api.Corrupt
		if n < 4 {
			want = api.Malformed
		}
		notLoaded(t, "cut", s, want)
	}
	put(t, s, "index", append(bytes.Clone(whole), 0))
	notLoaded(t, "a byte behind", s, api.Corrupt)
	put(t, s, "index", listForm(rising(3)...))
	notLoaded(t, "no sum", s, api.Corrupt)
	put(t, s, "index", []byte("hay in a loft"))
	notLoaded(t, "words", s, api.Corrupt)
	put(t, s, "index", whole)
	loads(t, "whole", s, rising(3)...)
}

func TestP1101LoadOfTurnedBits(t *testing.T) {
	for _, n := range []int{0, 1, 3} {
		s := fresh(t, 2000)
		put(t, s, "index", saved(rising(n)...))
		for at := range file(s, "index") {
			for bit := range 8 {
				ok(t, s.Flip("index", at, 1<<bit))
				notLoaded(t, "a bit is turned", s, api.Corrupt)
				ok(t, s.Flip("index", at, 1<<bit))
			}
		}
		loads(t, "turned back", s, rising(n)...)
	}
}

func TestP1101LoadOfNoRightEntries(t *testing.T) {
	s := fresh(t, api.MaxDisk)
	for what, b := range map[string][]byte{
		"sealed nothing":      nil,
		"a number":            num(7),
		"bytes":               form(2, []byte("x")),
		"a list of a number":  form(3, num(7)),
		"an entry of nothing": form(3, form(3)),
		"a list behind":       append(listForm(rising(1)...), 3, 0, 0),
		"sealed twice":        saved(rising(1)...),
		"a name of 31":        form(3, form(3, form(2, make([]byte, 31)), num(1), num(1), num(1))),
		"Pack 0":              listForm(one(1, 0, 1, 1)),
		"At too great":        listForm(one(1, 1, 12001, 1)),
		"Len 0":               listForm(one(1, 1, 1, 0)),
		"a name twice":        listForm(one(1, 1, 1, 1), one(1, 1, 1, 1)),
		"falling":             listForm(one(2, 1, 1, 1), one(1, 1, 1, 1)),
		"901":                 listForm(rising(901)...),
	} {
		put(t, s, "index", sealed(b))
		notLoaded(t, what, s, api.Malformed)
	}
}

func TestP1101LoadWhileDown(t *testing.T) {
	s := fresh(t, 2000)
	put(t, s, "index", saved(rising(2)...))
	ok(t, s.Arm(0))
	loads(t, "no step is left, and none is taken", s, rising(2)...)
	goesDown(t, s)
	notLoaded(t, "down", s, api.Down)
	ok(t, s.Up(0, nil))
	loads(t, "up", s, rising(2)...)
	none := fresh(t, 2000)
	goesDown(t, none)
	notLoaded(t, "down, no file", none, api.Down)
}

// The bytes are those of the chapters' words, whatever was there ahead, and all is safe.
func TestP1101Save(t *testing.T) {
	for _, old := range [][]byte{nil, {}, saved(), saved(rising(5)...), []byte("hay")} {
		for _, left := range [][]byte{nil, {}, saved(rising(9)...), []byte("loft")} {
			for _, n := range []int{0, 1, 2, 900} {
				s := fresh(t, api.MaxDisk)
				put(t, s, "other", []byte("x"))
				steps := s.Steps() + 5
				if old != nil {
					put(t, s, "index", old)
					steps += 4
				}
				if left != nil {
					put(t, s, "tmp.index", left)
					steps += 5
				}
				is(t, "Save", index.Save(s, crc.New(), rising(n)), api.OK)
				if s.Steps() != steps {
					t.Errorf("%d steps, not %d", s.Steps(), steps)
				}
				sees(t, "Save", s, "index", "other")
				ok(t, s.Up(0, nil))
				sees(t, "all is safe", s, "index", "other")
				if !bytes.Equal(file(s, "index"), saved(rising(n)...)) {
					t.Errorf("%d entries: other bytes", n)
				}
				loads(t, "what is saved is loaded", s, rising(n)...)
			}
		}
	}
}

// No entry, in the bytes that segment's example tells.
func TestP1101SaveOfNoEntry(t *testing.T) {
	for _, l := range [][]segment.Entry{nil, {}} {
		s := fresh(t, 7)
		ok(t, index.Save(s, crc.New(), l))
		if b := file(s, "index"); len(b) != 7 || !bytes.Equal(b[:3], []byte{3, 0, 0}) {
			t.Errorf("% x", b)
		}
		loads(t, "none", s)
	}
}

func TestP1101SaveOfWhatIsNotRight(t *testing.T) {
	for what, l := range wrongLists() {
		s := fresh(t, api.MaxDisk)
		put(t, s, "index", saved(rising(4)...))
		put(t, s, "tmp.index", []byte("left"))
		steps := s.Steps()
		is(t, what, index.Save(s, crc.New(), l), api.BadArg)
		sees(t, what, s, "index", "tmp.index")
		loads(t, what, s, rising(4)...)
		if s.Steps() != steps || string(file(s, "tmp.index")) != "left" {
			t.Errorf("%s: something was done", what)
		}
		goesDown(t, s)
		is(t, what+", and down", index.Save(s, crc.New(), l), api.BadArg)
	}
}

// What there is room for is what the old file leaves: it is there till the new one has its name.
func TestP1101SaveWithoutRoom(t *testing.T) {
	old, l := rising(4), rising(2)
	size := len(saved(l...))
	for _, room := range []int{0, 1, size - 1} {
		s := fresh(t, room)
		is(t, "no file yet", index.Save(s, crc.New(), l), api.NoSpace)
		notLoaded(t, "no file yet", s, api.NotFound)
	}
	ok(t, index.Save(fresh(t, size), crc.New(), l))
	for _, more := range []int{0, 1, size - 1} {
		s := fresh(t, len(saved(old...))+more)
		put(t, s, "index", saved(old...))
		is(t, "beside the old one", index.Save(s, crc.New(), l), api.NoSpace)
		loads(t, "as it was", s, old...)
		ok(t, s.Up(0, nil))
		loads(t, "as it was, behind a crash", s, old...)
	}
	s := fresh(t, len(saved(old...))+size)
	put(t, s, "index", saved(old...))
	put(t, s, "tmp.index", make([]byte, size)) // its room is given back first
	is(t, "just room", index.Save(s, crc.New(), l), api.OK)
	loads(t, "just room", s, l...)
}

// Behind a fault there may be a file "tmp.index": another Save removes it.
func TestP1101SaveBehindAFault(t *testing.T) {
	s := fresh(t, 300)
	put(t, s, "index", saved(rising(2)...))
	is(t, "no room", index.Save(s, crc.New(), rising(5)), api.NoSpace)
	sees(t, "the first fault ends it", s, "index", "tmp.index")
	is(t, "and again", index.Save(s, crc.New(), rising(5)), api.NoSpace)
	is(t, "with room", index.Save(s, crc.New(), rising(1)), api.OK)
	sees(t, "with room", s, "index")
	loads(t, "with room", s, rising(1)...)
}

// The system goes down ahead of each step; the chapter's order tells what was done by then.
func TestP1101SaveGoesDown(t *testing.T) {
	old, l, left := saved(rising(4)...), saved(rising(2)...), []byte("left")
	for steps, want := range []map[string][]byte{
		{"index": old, "tmp.index": left},
		{"index": old},
		{"index": old, "tmp.index": {}},
		{"index": old, "tmp.index": l},
		{"index": old, "tmp.index": l},
		{"index": l},
	} {
		s := fresh(t, 2000)
		put(t, s, "index", old)
		put(t, s, "tmp.index", left)
		done := s.Steps()
		ok(t, s.Arm(steps))
		is(t, "it goes down", index.Save(s, crc.New(), rising(2)), api.Down)
		if !s.Down() || s.Steps() != done+int64(steps) {
			t.Errorf("%d steps: Down %v, %d done", steps, s.Down(), s.Steps()-done)
		}
		is(t, "while it is down", index.Save(s, crc.New(), rising(2)), api.Down)
		ok(t, s.Up(9, []int{999, 999}))
		if len(s.List()) != len(want) {
			t.Errorf("%d steps: %q", steps, s.List())
		}
		for name, b := range want {
			if got := file(s, name); got == nil || !bytes.Equal(got, b) {
				t.Errorf("%d steps: %s: %d bytes, not %d", steps, name, len(got), len(b))
			}
		}
	}
	s := fresh(t, 2000)
	put(t, s, "tmp.index", left)
	ok(t, s.Arm(6))
	is(t, "just steps enough", index.Save(s, crc.New(), rising(2)), api.OK)
	s = fresh(t, 2000)
	ok(t, s.Arm(5))
	is(t, "nothing to remove: a step less", index.Save(s, crc.New(), rising(2)), api.OK)
}

// Bytes are made safe ahead of the name: at each step at which the name is the new file's, that is whole.
func TestP1101SaveMakesBytesSafeFirst(t *testing.T) {
	s := fresh(t, 2000)
	ok(t, s.Arm(4))
	is(t, "ahead of SyncDir", index.Save(s, crc.New(), rising(2)), api.Down)
	ok(t, s.Up(9, nil))
	loads(t, "no byte survives that was not safe", s, rising(2)...)
}
