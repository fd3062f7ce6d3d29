package shelf_test

import (
	"testing"

	"hayloft/api"
	"hayloft/crc"
	"hayloft/pack"
	"hayloft/shelf"
	"hayloft/simfs"
)

// notOpened: Open has that fault, and tells no shelf.
func notOpened(t *testing.T, what string, s *simfs.FS, c *crc.Table, want api.Fault) {
	t.Helper()
	h, f := shelf.Open(s, c)
	is(t, what+": Open", f, want)
	if h != nil {
		t.Errorf("%s: a shelf beside fault %d", what, f)
	}
}

func TestP901OpenWithNothing(t *testing.T) {
	s := fresh(t, 1000)
	h := open(t, s)
	stands(t, "nothing", h, 1)
	counts(t, "steps", int(s.Steps()), 0)
	ok(t, s.Arm(0))
	stands(t, "nothing, and armed", open(t, s), 1)
	if s.Down() {
		t.Error("a step, though there is no temporary file")
	}
}

func TestP901OpenWithPacksAndNoTemporaryFile(t *testing.T) {
	s := fresh(t, 1000)
	for _, name := range []string{"pack.2", "pack.10", "pack.9", "index", "tmp", "pack.07", "pack.1000000", "xtmp.1"} {
		ok(t, s.Create(name))
	}
	steps := s.Steps()
	ok(t, s.Arm(0))
	stands(t, "packs", open(t, s), 11, 2, 9, 10)
	if s.Steps() != steps || s.Down() {
		t.Error("a step, though there is no temporary file")
	}
	ok(t, s.Up(0, nil))
	sees(t, "no name was made safe", s)
}

func TestP901OpenWithTemporaryFiles(t *testing.T) {
	s := fresh(t, 1000)
	for _, name := range []string{"tmp.3", "pack.2", "tmp.index", "tmp.", "snaps", "tmp.7x"} {
		ok(t, s.Create(name), s.Append(name, []byte("abc")), s.Fsync(name))
	}
	ok(t, s.SyncDir())
	steps := s.Steps()
	h := open(t, s)
	sees(t, "cleaned", s, "pack.2", "snaps")
	stands(t, "cleaned", h, 3, 2)
	counts(t, "steps: four files, and the names", int(s.Steps()-steps), 5)
	ok(t, s.Up(0, nil))
	sees(t, "behind a crash", s, "pack.2", "snaps")
	stands(t, "behind a crash", h, 3, 2)
}

func TestP901OpenWhereCleanFails(t *testing.T) {
	for steps := range 3 {
		s := fresh(t, 1000)
		ok(t, s.Create("tmp.1"), s.Create("tmp.2"), s.Create("pack.5"), s.SyncDir(), s.Arm(steps))
		notOpened(t, "down within", s, crc.New(), api.Down)
		if !s.Down() {
			t.Fatalf("%d steps: it is up", steps)
		}
		ok(t, s.Up(0, nil))
		sees(t, "nothing of it survives", s, "pack.5", "tmp.1", "tmp.2")
		stands(t, "opened anew", open(t, s), 6, 5)
		sees(t, "opened anew", s, "pack.5")
	}
}

// While it is down no name is seen: there is nothing to clean, and no pack.
func TestP901OpenWhileDown(t *testing.T) {
	s := fresh(t, 1000)
	ok(t, s.Create("tmp.1"), s.Create("pack.5"), s.SyncDir())
	goesDown(t, s)
	h := open(t, s)
	stands(t, "down", h, 1)
	notLaid(t, "down", h, records(1), api.Down)
	ok(t, s.Up(0, nil))
	stands(t, "up again", h, 6, 5)
	sees(t, "up again", s, "pack.5", "tmp.1")
}

// IDs are as the packs are seen at any time, whoever made them.
func TestP901IDsAtAnyTime(t *testing.T) {
	s := fresh(t, 1000)
	h := open(t, s)
	ok(t, s.Create("pack.4"), s.Create("pack.30"), s.Create("tmp.50"), s.Create("pack.050"))
	stands(t, "made by others", h, 31, 4, 30)
	ok(t, s.Rename("pack.4", "pack.100"))
	stands(t, "moved", h, 101, 30, 100)
	ok(t, s.Remove("pack.100"))
	stands(t, "removed", h, 31, 30)
	steps := s.Steps()
	ok(t, s.Arm(0))
	stands(t, "armed", h, 31, 30)
	if s.Steps() != steps || s.Down() {
		t.Error("IDs or Next is a step")
	}
	is(t, "a step", s.SyncDir(), api.Down)
	stands(t, "down", h, 1)
	ok(t, s.Up(0, nil))
	stands(t, "nothing survives", h, 1)
}

func TestP901NextWithGaps(t *testing.T) {
	s := fresh(t, 20000)
	h := open(t, s)
	stands(t, "no pack", h, 1)
	ok(t, s.Create("pack.3"))
	stands(t, "one", h, 4, 3)
	ok(t, s.Create("pack.1"), s.Create("pack.77"), s.Create("pack.9"))
	stands(t, "with gaps", h, 78, 1, 3, 9, 77)
	lays(t, "behind the greatest", h, records(5)...)
	stands(t, "laid", h, 79, 1, 3, 9, 77, 78)
}

func TestP901NextBehindADrop(t *testing.T) {
	s := fresh(t, 20000)
	h := open(t, s)
	lays(t, "first", h, records(5)...)
	lays(t, "second", h, records(6)...)
	stands(t, "two", h, 3, 1, 2)
	other := open(t, s)
	drops(t, "the greatest", h, 1, api.OK, 2)
	stands(t, "this shelf began it", h, 3, 1)
	stands(t, "another shelf did not", other, 2, 1)
	drops(t, "the last one", h, 1, api.OK, 1)
	stands(t, "this shelf began both", h, 3)
	stands(t, "another shelf began none", other, 1)
	lays(t, "anew", h, records(7)...)
	stands(t, "anew", h, 4, 3)
	stands(t, "seen by another shelf", other, 4, 3)
}

// What others made, and is gone, does not count.
func TestP901NextBehindADropOfAnothers(t *testing.T) {
	s := fresh(t, 20000)
	h := open(t, s)
	lays(t, "first", h, records(5)...)
	ok(t, s.Create("pack.50"))
	stands(t, "another's", h, 51, 1, 50)
	drops(t, "another's", h, 1, api.OK, 50)
	stands(t, "another's is gone", h, 2, 1)
}

func TestP901NextBehindALayThatFailed(t *testing.T) {
	s := fresh(t, 200)
	h := open(t, s)
	notLaid(t, "no room", h, records(10, 300), api.NoSpace)
	stands(t, "it was begun", h, 2)
	stands(t, "not by another shelf", open(t, s), 1)
	lays(t, "the next one", h, records(10)...)
	stands(t, "the next one", h, 3, 2)
	ok(t, s.Arm(2))
	notLaid(t, "down within", h, records(1, 2, 3), api.Down)
	stands(t, "down", h, 4)
	ok(t, s.Up(0, nil))
	stands(t, "up again", h, 4, 2)
	stands(t, "another shelf", open(t, s), 3, 2)
}

// A pack whose Begin has a fault was not begun.
func TestP901NextBehindABeginThatFailed(t *testing.T) {
	s := fresh(t, 2000)
	h := open(t, s)
	ok(t, s.Create("tmp.1"), s.Create("tmp.2"))
	notLaid(t, "something has its name", h, records(1), api.Exists)
	stands(t, "not begun", h, 1)
	sees(t, "another's file stays", s, "tmp.1", "tmp.2")
	ok(t, s.Remove("tmp.1"), s.SyncDir(), s.Arm(0))
	notLaid(t, "down", h, records(1), api.Down)
	ok(t, s.Up(0, nil))
	stands(t, "not begun", h, 1)
	lays(t, "now it is", h, records(1)...)
	notLaid(t, "the second has its name", h, records(1), api.Exists)
	stands(t, "the first alone", h, 2, 1)
}

// What is refused ahead begins nothing.
func TestP901NextBehindARefusal(t *testing.T) {
	s := fresh(t, 2000)
	h := open(t, s)
	for _, r := range wrongOnes() {
		notLaid(t, "not right", h, append(records(1, 2), r), api.BadArg)
	}
	lays(t, "nothing", h)
	stands(t, "nothing was begun", h, 1)
	counts(t, "steps", int(s.Steps()), 0)
}

func TestP901NextWithTheLastID(t *testing.T) {
	s := fresh(t, 20000)
	ok(t, s.Create(pack.Name(999999)))
	h := open(t, s)
	stands(t, "the last one is there", h, 1000000, 999999)
	notLaid(t, "no id is left", h, records(1), api.TooLarge)
	lays(t, "nothing needs none", h)
	ok(t, s.Remove("pack.999999"))
	stands(t, "gone", h, 1)
	lays(t, "an id is left", h, records(1)...)
}

// Shelves over one file system see each other's packs, and share nothing else.
func TestP901AnotherShelf(t *testing.T) {
	s := fresh(t, 50000)
	a, b := open(t, s), open(t, s)
	la, lb := records(1, 2), records(3, 4, 5)
	wa := lays(t, "a", a, la...)
	wb := lays(t, "b", b, lb...)
	stands(t, "a", a, 3, 1, 2)
	stands(t, "b", b, 3, 1, 2)
	reads(t, "a reads b's", a, wb, lb...)
	reads(t, "b reads a's", b, wa, la...)
	want := append(found(wa, la), found(wb, lb)...)
	walks(t, "a", a, 9, want)
	walks(t, "b", b, 9, want)
	drops(t, "b drops a's", b, 1, api.OK, 1)
	notRead(t, "a's is gone", a, wa[0], api.NotFound)
	drops(t, "a drops b's", a, 1, api.OK, 2)
	stands(t, "a began 1", a, 2)
	stands(t, "b began 2", b, 3)
	c := open(t, s.Copy())
	lays(t, "in a copy", c, la...)
	stands(t, "in a copy", c, 2, 1)
	stands(t, "a, of another file system", a, 2)
}
