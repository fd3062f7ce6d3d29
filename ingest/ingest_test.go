package ingest_test

import (
	"testing"

	"hayloft/api"
	"hayloft/ingest"
	"hayloft/store"
	"hayloft/tree"
)

func TestP1502ExampleOfTheEmptyTree(t *testing.T) {
	for _, u := range []tree.Tree{nil, {}} {
		o := empty(t)
		h, n, f := ingest.Ingest(o, u)
		if f != api.OK || n != (ingest.Count{Dirs: 1, New: 1}) || text(h) != "355ebec2cf87301230fa2d98306efb0cee60ac86032de39d66e3599d73d6ff96" {
			t.Errorf("%s, %v, fault %d", text(h), n, f)
		}
		waits(t, "empty", o, store.Object{Kind: 3, Body: []byte{3, 0, 0}})
	}
}

// Roots that were reckoned by hand of the chapters' words.
func TestP1502RootsByHand(t *testing.T) {
	for _, c := range []struct {
		u    tree.Tree
		n    ingest.Count
		root string
	}{
		{of(dir("a"), file("a/b", filled(0, 130)), file("c", "x")), ingest.Count{Files: 2, Dirs: 2, Chunks: 6, New: 6}, "1faf108621cc5f8489a2718b8b344fe9e6539de3530338622fe541515c0b031e"},
		{byHand(), ingest.Count{Files: 8, Dirs: 8, Chunks: 17, New: 25}, "a4d5da20274ee5b9f70fb01364f3083eabd5fe34776081d9abde2416df8cc590"},
	} {
		h, n, f := ingest.Ingest(empty(t), c.u)
		if f != api.OK || n != c.n || text(h) != c.root {
			t.Errorf("%s: %s, %v, fault %d, not %s, %v", toldTree(c.u), text(h), n, f, c.root, c.n)
		}
	}
}

// byHand: wood, but with files of 200 bytes that rise by 1.
func byHand() tree.Tree {
	u := wood()
	var b []byte
	for i := range 200 {
		b = append(b, byte(i))
	}
	for i, x := range u {
		if len(x.Data) == 200 {
			u[i].Data = b
		}
	}
	return u
}

// What waits behind it are just the tree's objects, each once, in order.
func TestP1502Ingest(t *testing.T) {
	for what, u := range rightTrees() {
		o := empty(t)
		l := once(wordsObjects(u))
		ingests(t, what, o, u, len(l))
		waits(t, what, o, l...)
		holds(t, what, o, l...)
		holds(t, what+", another Open", open(t, o.FS()), l...)
	}
}

func TestP1502Count(t *testing.T) {
	x, y := filled(short, 48), filled(long, 65)
	for _, c := range []struct {
		what string
		u    tree.Tree
		want ingest.Count
	}{
		{"a file", of(file("a", "x")), ingest.Count{Files: 1, Dirs: 1, Chunks: 1, New: 3}},
		{"an empty file", of(file("a", "")), ingest.Count{Files: 1, Dirs: 1, New: 2}},
		{"two empty files", of(file("a", ""), file("b", "")), ingest.Count{Files: 2, Dirs: 1, New: 2}},
		{"a directory", of(dir("a")), ingest.Count{Dirs: 2, New: 2}},
		{"two directories", of(dir("a"), dir("b")), ingest.Count{Dirs: 3, New: 2}},
		{"6 deep", chain("d", 6), ingest.Count{Dirs: 7, New: 7}},
		{"a chunk three times", of(file("a", x)), ingest.Count{Files: 1, Dirs: 1, Chunks: 3, New: 3}},
		{"a file twice", of(file("a", x), file("b", x)), ingest.Count{Files: 2, Dirs: 1, Chunks: 6, New: 3}},
		{"a directory twice", of(dir("a"), file("a/x", y), dir("b"), file("b/x", y)), ingest.Count{Files: 2, Dirs: 3, Chunks: 4, New: 5}},
		{"a chunk in two files", of(file("a", filled(long, 64)), file("b", y)), ingest.Count{Files: 2, Dirs: 1, Chunks: 3, New: 5}},
		{"a full file", of(file("a", filled(short, 2000))), ingest.Count{Files: 1, Dirs: 1, Chunks: 125, New: 3}},
		{"60 files", many(60), ingest.Count{Files: 60, Dirs: 1, Chunks: 60, New: 121}},
	} {
		h, n, f := ingest.Ingest(empty(t), c.u)
		if f != api.OK || n != c.want || h != wordsRoot(c.u) {
			t.Errorf("%s: %v, fault %d, not %v, or another root", c.what, n, f, c.want)
		}
	}
}

// stores: that have none, some and all of l, waiting, in a pack, and both; and which.
func stores(t *testing.T, l []store.Object) map[string]func() (*store.Store, []store.Object) {
	t.Helper()
	with := func(packed, waiting []store.Object, anew bool) func() (*store.Store, []store.Object) {
		return func() (*store.Store, []store.Object) {
			o := empty(t)
			puts(t, o, packed...)
			flush(t, o)
			if anew {
				o = open(t, o.FS())
			}
			puts(t, o, waiting...)
			return o, append(once(packed), waiting...)
		}
	}
	n := len(l)
	return map[string]func() (*store.Store, []store.Object){
		"none":                   with(nil, nil, false),
		"the first waits":        with(nil, l[:1], false),
		"the last waits":         with(nil, l[n-1:], false),
		"some wait":              with(nil, l[n/3:n/2], false),
		"all wait":               with(nil, l, false),
		"the first in a pack":    with(l[:1], nil, false),
		"the last in a pack":     with(l[n-1:], nil, false),
		"some in a pack":         with(l[n/3:n/2], nil, false),
		"all in a pack":          with(l, nil, false),
		"all in a pack, anew":    with(l, nil, true),
		"both":                   with(l[:n/2], l[n/2:], false),
		"some of both":           with(l[:n/4], l[n/2:3*n/4], true),
		"some in both":           with(l[:n/2], l[n/4:3*n/4], true),
		"others wait":            with(nil, wordsFile([]byte("others")), false),
		"others, all in a pack":  with(append(wordsFile([]byte("others")), l...), nil, true),
		"others wait beside all": with(l, wordsFile([]byte("others")), false),
	}
}

func TestP1502New(t *testing.T) {
	for name, u := range map[string]tree.Tree{"wood": wood(), "empty": nil, "a full file": of(file("a", counted(2, 2000)))} {
		l := wordsObjects(u)
		for what, begin := range stores(t, l) {
			what = name + ", " + what
			o, there := begin()
			ahead := o.Pending()
			fresh := without(l, there...)
			ingests(t, what, o, u, len(fresh))
			if o.Pending() != ahead+len(fresh) {
				t.Errorf("%s: %d wait, not %d", what, o.Pending(), ahead+len(fresh))
			}
			holds(t, what, o, append(there, fresh...)...)
			flush(t, o)
			holds(t, what+", flushed", open(t, o.FS()), append(there, fresh...)...)
		}
	}
}

// Of two trees that share something the second one's objects come behind the first one's, and
// those that both have just once.
func TestP1502TwoTrees(t *testing.T) {
	o := empty(t)
	u, v := wood(), of(dir("a"), dir("a/b"), dir("a/b/c"), file("a/b/c/d", "deep"), file("f", counted(1, 201)))
	l := once(wordsObjects(u))
	more := without(wordsObjects(v), l...)
	ingests(t, "the first", o, u, len(l))
	ingests(t, "the second", o, v, len(more))
	waits(t, "both", o, append(l, more...)...)
}

// Objects wait in memory: a disk that is full, or down, is no hindrance.
func TestP1502DiskThatTakesNothing(t *testing.T) {
	s := fresh(t, 8)
	o := open(t, s)
	l := once(wordsObjects(wood()))
	goesDown(t, s)
	steps := s.Steps()
	ingests(t, "down", o, wood(), len(l))
	holds(t, "down", o, l...)
	if s.Steps() != steps {
		t.Error("a step was taken")
	}
	ok(t, s.Up(0, nil))
	if _, f := o.Flush(); f != api.NoSpace {
		t.Errorf("full: fault %d", f)
	}
	ingests(t, "full", o, wood(), 0)
	holds(t, "full", o, l...)
}

// A tree that is not right puts nothing, whatever of it is right.
func TestP1502WrongTree(t *testing.T) {
	for what, u := range wrongTrees() {
		o := empty(t)
		puts(t, o, wordsFile([]byte("there"))...)
		fails(t, what, o, u, api.BadArg)
		holds(t, what, o, wordsFile([]byte("there"))...)
	}
}
