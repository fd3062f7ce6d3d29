package ingest_test

import (
	"testing"

	"hayloft/api"
	"hayloft/ingest"
	"hayloft/node"
	"hayloft/store"
)

func TestP1502File(t *testing.T) {
	for what, data := range sizes() {
		o := empty(t)
		files(t, what, o, data)
		waits(t, what, o, once(wordsFile([]byte(data)))...)
		files(t, what+", again", o, data)
		if o.Pending() != 0 {
			t.Errorf("%s: put again, %d wait", what, o.Pending())
		}
		holds(t, what, open(t, o.FS()), wordsFile([]byte(data))...)
	}
}

// Of no byte: one object, whose Size is 0, and which has no chunk.
func TestP1502FileOfNoByte(t *testing.T) {
	want := store.Object{Kind: 2, Body: []byte{3, 0, 6, 1, 0, 0, 3, 0, 0}}
	for _, data := range [][]byte{nil, {}} {
		o := empty(t)
		h, f := ingest.File(o, data)
		if f != api.OK || h != named(want) {
			t.Errorf("%s, fault %d", text(h), f)
		}
		waits(t, "no byte", o, want)
	}
}

func TestP1502FileOfTooManyBytes(t *testing.T) {
	for _, n := range []int{2001, 2002, 4096, 5000, 70000, 1 << 22} {
		o := empty(t)
		noFile(t, "too many", o, make([]byte, n), api.BadArg)
		holds(t, "too many", o)
	}
	o := empty(t)
	files(t, "the most", o, filled(0, 2000))
}

func TestP1502FileNoStore(t *testing.T) {
	for what, o := range nobody() {
		for _, n := range []int{0, 1, 2000, 2001, 70000} {
			noFile(t, what, o, make([]byte, n), api.Nil)
		}
		noFile(t, what, o, nil, api.Nil)
	}
}

// The file of an item's data has the name that the item has in its directory.
func TestP1502FileOfAnItem(t *testing.T) {
	u := wood()
	o := empty(t)
	root, _, f := ingest.Ingest(o, u)
	ok(t, f)
	pending := o.Pending()
	seen := 0
	for _, x := range u {
		if x.Dir {
			continue
		}
		seen++
		h, f := ingest.File(o, x.Data)
		if want := entry(t, o, root, x.Path); f != api.OK || h != want.Hash || want.Dir {
			t.Errorf("%s: %s, fault %d, not %s", x.Path, text(h), f, text(want.Hash))
		}
		files(t, "alone", empty(t), string(x.Data))
	}
	if seen != 8 || o.Pending() != pending {
		t.Errorf("%d files; %d wait, not %d", seen, o.Pending(), pending)
	}
}

// The other way round: what File put is not new to a tree.
func TestP1502FileAheadOfItsTree(t *testing.T) {
	o := empty(t)
	data := counted(1, 200)
	files(t, "alone", o, data)
	u := of(file("a", data), dir("b"), file("b/c", data))
	ingests(t, "two directories are new", o, u, 2)
}

// entry: of that path, from the root on.
func entry(t *testing.T, o *store.Store, root api.Hash, p string) node.Entry {
	t.Helper()
	e := node.Entry{Dir: true, Hash: root}
	for _, name := range parts(p) {
		x, f := o.Get(e.Hash)
		ok(t, f)
		l, f := node.GetDir(x)
		ok(t, f)
		next, is := node.Find(l, name)
		if !is {
			t.Fatalf("%s: no %s", p, name)
		}
		e = next
	}
	return e
}

// A disk that is full, or down, is no hindrance.
func TestP1502FileOnADiskThatTakesNothing(t *testing.T) {
	s := fresh(t, 8)
	o := open(t, s)
	goesDown(t, s)
	files(t, "down", o, counted(1, 300))
	holds(t, "down", o, wordsFile([]byte(counted(1, 300)))...)
}
