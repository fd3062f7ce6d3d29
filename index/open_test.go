package index_test

import (
	"bytes"
	"fmt"
	"slices"
	"testing"

	"hayloft/api"
	"hayloft/crc"
	"hayloft/frame"
	"hayloft/index"
	"hayloft/segment"
	"hayloft/shelf"
	"hayloft/simfs"
)

// The chapter's example.
func TestP1103Example(t *testing.T) {
	s := fresh(t, 1000)
	opens(t, "empty", s, true)
	sees(t, "empty", s, "index")
	opens(t, "and again", s, false)
}

// twoPacks: a file system with packs, and what Rebuild tells of them.
func twoPacks(t *testing.T) (*simfs.FS, []segment.Entry) {
	t.Helper()
	s := fresh(t, 9000)
	h := shelved(t, s)
	l := slices.Concat(lays(t, h, records(6, 2, 6)), lays(t, h, records(4, 2, 8)))
	return s, byName(l...)
}

func TestP1103OpenOfWhatRebuildTells(t *testing.T) {
	s, l := twoPacks(t)
	put(t, s, "index", saved(l...))
	steps := s.Steps()
	ok(t, s.Arm(0))
	opens(t, "as it is", s, false, l...)
	if s.Steps() != steps || s.Down() {
		t.Error("Open has saved what is there")
	}
	sees(t, "as it is", s, "index", "pack.1", "pack.2")
}

// A file of Save's temporary name is no matter, whether there is something to save or not.
func TestP1103OpenWithATemporaryFile(t *testing.T) {
	for _, old := range [][]segment.Entry{nil, rising(2)} {
		s, l := twoPacks(t)
		h := shelved(t, s) // what stands there then is not cleaned up
		if old == nil {
			old = l
		}
		put(t, s, "index", saved(old...))
		put(t, s, "tmp.index", saved(rising(7)...))
		x, rebuilt, f := index.Open(s, crc.New(), h)
		ok(t, f)
		holds(t, "it is no matter", x, l...)
		if rebuilt == slices.Equal(old, l) {
			t.Errorf("rebuilt %v", rebuilt)
		}
		loads(t, "it is no matter", s, l...)
	}
}

// others: right entries that are not just these, by what they have apart.
func others(l []segment.Entry) map[string][]segment.Entry {
	m := map[string][]segment.Entry{
		"none":         {},
		"one too few":  l[1:],
		"another few":  l[:len(l)-1],
		"one too much": append(slices.Clone(l), one(99, 1, 0, 49)),
		"one ahead":    append([]segment.Entry{one(0, 1, 0, 49)}, l...),
		"all others":   rising(9),
	}
	for i := range l {
		for what, change := range map[string]func(e *segment.Entry){
			"another pack": func(e *segment.Entry) { e.W.Pack++ },
			"another At":   func(e *segment.Entry) { e.W.At++ },
			"another Len":  func(e *segment.Entry) { e.W.Len++ },
			"another name": func(e *segment.Entry) { e.Name[31]++ },
		} {
			c := slices.Clone(l)
			change(&c[i])
			m[what+fmt.Sprint(i)] = c
		}
	}
	return m
}

func TestP1103OpenOfAnotherIndex(t *testing.T) {
	first, l := twoPacks(t)
	for what, old := range others(l) {
		s := first.Copy()
		put(t, s, "index", saved(old...))
		opens(t, what, s, true, l...)
		if !bytes.Equal(file(s, "index"), saved(l...)) {
			t.Errorf("%s: other bytes", what)
		}
		ok(t, s.Up(0, nil))
		opens(t, what+", and again", s, false, l...)
	}
}

// An object that stands in two packs: the index must tell the first place.
func TestP1103OpenOfTheSecondPlace(t *testing.T) {
	s, l := twoPacks(t)
	c := slices.Clone(l)
	c[0].W = shelf.Where{Pack: 2, At: 49, Len: 50}
	if r, f := shelved(t, s).Read(c[0].W); f != api.OK || r.Name != c[0].Name {
		t.Fatalf("it is not there: fault %d", f)
	}
	put(t, s, "index", saved(c...))
	opens(t, "the second place", s, true, l...)
}

func TestP1103OpenOfWhatCantBeRead(t *testing.T) {
	first, l := twoPacks(t)
	whole := saved(l...)
	for what, b := range map[string][]byte{
		"no file":   nil,
		"empty":     {},
		"cut":       whole[:len(whole)-1],
		"more":      append(bytes.Clone(whole), 0),
		"words":     []byte("hay in a loft"),
		"a number":  sealed(num(7)),
		"not right": saved(one(1, 0, 0, 0)),
		"901":       saved(rising(901)...),
	} {
		s := first.Copy()
		if b != nil {
			s = fresh(t, api.MaxDisk)
			for _, name := range first.List() {
				put(t, s, name, file(first, name))
			}
			put(t, s, "index", b)
		}
		opens(t, what, s, true, l...)
		opens(t, what+", and again", s, false, l...)
	}
	put(t, first, "index", whole)
	for at := range whole {
		s := first.Copy()
		ok(t, s.Flip("index", at, 1<<(at%8)))
		opens(t, "a bit is turned", s, true, l...)
	}
}

func TestP1103OpenWhileDown(t *testing.T) {
	s, l := twoPacks(t)
	h := shelved(t, s)
	for _, old := range [][]byte{nil, []byte("hay"), saved(rising(1)...), saved(l...)} {
		if old != nil {
			put(t, s, "index", old)
		}
		steps := s.Steps()
		goesDown(t, s)
		notOpened(t, "down", s, h, api.Down)
		ok(t, s.Up(0, nil))
		if s.Steps() != steps || !bytes.Equal(file(s, "index"), old) {
			t.Error("something was done")
		}
	}
	// Down comes ahead of TooLarge, and is that of the file system, not of the shelf's.
	full := fresh(t, api.MaxDisk)
	g := shelved(t, full)
	lays(t, g, many(901))
	goesDown(t, s)
	notOpened(t, "down, and too many", s, g, api.Down)
	goesDown(t, full)
	x, rebuilt, f := index.Open(fresh(t, 100), crc.New(), g)
	ok(t, f)
	holds(t, "the shelf's is down", x)
	if !rebuilt {
		t.Error("not rebuilt")
	}
}

func TestP1103OpenOfMany(t *testing.T) {
	s := fresh(t, api.MaxDisk)
	l := byName(lays(t, shelved(t, s), many(900))...)
	opens(t, "900", s, true, l...)
	opens(t, "900, and again", s, false, l...)
}

func TestP1103OpenOfTooMany(t *testing.T) {
	for _, n := range []int{901, 930} {
		s := fresh(t, api.MaxDisk)
		h := shelved(t, s)
		l := byName(lays(t, h, many(n))...)
		notOpened(t, "too many", s, h, api.TooLarge)
		notLoaded(t, "nothing was saved", s, api.NotFound)
		put(t, s, "index", saved(l[:900]...))
		put(t, s, "tmp.index", nil)
		steps := s.Steps()
		notOpened(t, "too many, with an index", s, h, api.TooLarge)
		loads(t, "as it was", s, l[:900]...)
		ok(t, s.Arm(0))
		notOpened(t, "too many, no step is left", s, h, api.TooLarge)
		if s.Steps() != steps || s.Down() || file(s, "tmp.index") == nil {
			t.Error("something was done")
		}
		ok(t, s.Up(0, nil))
		put(t, s, "index", saved(l...))
		notOpened(t, "just these, which can't be loaded", s, h, api.TooLarge)
	}
}

// Records that stand twice count once.
func TestP1103OpenOfManyThatStandTwice(t *testing.T) {
	s := fresh(t, api.MaxDisk)
	h := shelved(t, s)
	l := lays(t, h, slices.Concat(many(500), many(500), many(400)))
	opens(t, "1400 records, 500 names", s, true, byName(l...)...)
}

// A place that can't be is told by a pack that is longer than one may be.
func TestP1103OpenOfAPlaceThatCantBe(t *testing.T) {
	s := fresh(t, api.MaxDisk)
	h := shelved(t, s)
	lays(t, h, []frame.Record{{Kind: 1, Name: named(1), Body: make([]byte, 5000)}, {Kind: 1, Name: named(2), Body: make([]byte, 5000)}})
	two := file(s, "pack.1")
	put(t, s, "pack.1", slices.Concat(two, two[:5049]))
	opens(t, "a name that stands ahead too", s, true, one(1, 1, 0, 5049), one(2, 1, 5049, 5049))
	last, f := frame.Put(crc.New(), frame.Record{Kind: 1, Name: named(3)})
	ok(t, f, s.Append("pack.1", last))
	notOpened(t, "another name", s, h, api.TooLarge)
	loads(t, "as it was", s, one(1, 1, 0, 5049), one(2, 1, 5049, 5049))
}

// Packs that can't be loaded are no fault: what they had is not told.
func TestP1103OpenWithPacksThatCantBeLoaded(t *testing.T) {
	s, l := twoPacks(t)
	opens(t, "all", s, true, l...)
	ok(t, s.Flip("pack.1", 3, 1))
	some, _ := index.Rebuild(shelved(t, s))
	if len(some) != 3 {
		t.Fatalf("%d entries", len(some))
	}
	opens(t, "one is broken", s, true, some...)
	ok(t, s.Flip("pack.2", 3, 1))
	opens(t, "both are", s, true)
	ok(t, s.Flip("pack.1", 3, 1), s.Flip("pack.2", 3, 1))
	opens(t, "none is", s, true, l...)
}

func TestP1103OpenWhoseSaveHasAFault(t *testing.T) {
	first, l := twoPacks(t)
	h := shelved(t, first)
	for _, more := range []int{0, 1, len(saved(l...)) - 1} {
		s := fresh(t, first.Used()+more)
		for _, name := range first.List() {
			put(t, s, name, file(first, name))
		}
		notOpened(t, "no room", s, shelved(t, s), api.NoSpace)
		notLoaded(t, "no room", s, api.NotFound)
	}
	for _, old := range [][]byte{nil, saved(rising(2)...)} {
		for steps := range 5 {
			s := fresh(t, 9000)
			if old != nil {
				put(t, s, "index", old)
			}
			ok(t, s.Arm(steps))
			notOpened(t, "it goes down", s, h, api.Down)
			ok(t, s.Up(0, nil))
			if !bytes.Equal(file(s, "index"), old) {
				t.Errorf("%d steps: the index is another one", steps)
			}
		}
	}
	s := fresh(t, 9000)
	ok(t, s.Arm(5))
	x, rebuilt, f := index.Open(s, crc.New(), h)
	ok(t, f)
	holds(t, "just steps enough", x, l...)
	if !rebuilt {
		t.Error("not rebuilt")
	}
}

// Two indexes over one file system share the file alone.
func TestP1103TwoIndexes(t *testing.T) {
	s, l := twoPacks(t)
	x := opens(t, "first", s, true, l...)
	y := opens(t, "second", s, false, l...)
	ok(t, x.Set(nil))
	holds(t, "first", x)
	holds(t, "second", y, l...)
	loads(t, "what was saved last", s)
	ok(t, y.Add(nil))
	loads(t, "what was saved last", s, l...)
	holds(t, "first", x)
}
