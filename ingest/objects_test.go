package ingest_test

import (
	"fmt"
	"slices"
	"testing"

	"hayloft/api"
	"hayloft/ingest"
	"hayloft/store"
	"hayloft/tree"
)

func TestP1501ExampleOfTheEmptyTree(t *testing.T) {
	o := empty(t)
	for _, u := range []tree.Tree{nil, {}} {
		makes(t, "empty", o, u, store.Object{Kind: 3, Body: []byte{3, 0, 0}})
	}
}

func TestP1501Objects(t *testing.T) {
	o := empty(t)
	for what, u := range rightTrees() {
		makes(t, what, o, u, wordsObjects(u)...)
	}
}

// kinds: of objects, one behind the other, a chunk's and an empty file's with its body.
func kinds(l []store.Object) string {
	s := ""
	for _, x := range l {
		if x.Kind == 1 {
			s += string(x.Body)
		}
		s += fmt.Sprint(x.Kind) + " "
	}
	return s
}

// The order is told by the chunks, each file of one that is its path.
func TestP1501Order(t *testing.T) {
	self := func(p string) api.Item { return file(p, p) }
	for _, c := range []struct {
		want string
		u    tree.Tree
	}{
		{"3 ", of()},
		{"a1 2 b1 2 3 ", of(self("a"), self("b"))},
		{"a/x1 2 3 3 ", of(dir("a"), self("a/x"))},
		{"a/x1 2 3 a.b1 2 3 ", of(dir("a"), self("a.b"), self("a/x"))},
		{"a/x1 2 a/y1 2 3 a!1 2 a.b/c1 2 3 a01 2 3 ", of(dir("a"), self("a!"), dir("a.b"), self("a.b/c"), self("a/x"), self("a/y"), self("a0"))},
		{"a/a/x1 2 3 a/a!/x1 2 3 a/a01 2 3 3 ", of(dir("a"), dir("a/a"), dir("a/a!"), self("a/a!/x"), self("a/a/x"), self("a/a0"))},
		{"a/a/b1 2 3 a/b1 2 3 b1 2 3 ", of(dir("a"), dir("a/a"), self("a/a/b"), self("a/b"), self("b"))},
		{"B1 2 a1 2 3 ", of(self("B"), self("a"))},
		{"101 2 91 2 3 ", of(self("10"), self("9"))},
		{"3 3 3 3 ", of(dir("a"), dir("a/b"), dir("c"))},
		{"3 3 3 3 3 3 3 ", chain("d", 6)},
	} {
		l, f := ingest.Objects(empty(t), c.u)
		if f != api.OK || kinds(l) != c.want {
			t.Errorf("%s: %s, fault %d, not %s", toldTree(c.u), kinds(l), f, c.want)
		}
	}
}

// Chunks are in order, and are the file's bytes.
func TestP1501ChunksOfAFile(t *testing.T) {
	for what, data := range sizes() {
		l, f := ingest.Objects(empty(t), of(file("f", data)))
		ok(t, f)
		got := ""
		for _, x := range l[:len(l)-2] {
			if x.Kind != 1 || len(x.Body) < 1 || len(x.Body) > 64 {
				t.Errorf("%s: kind %d, %d bytes", what, x.Kind, len(x.Body))
			}
			got += string(x.Body)
		}
		if got != data || l[len(l)-2].Kind != 2 || l[len(l)-1].Kind != 3 {
			t.Errorf("%s: %s", what, told(l))
		}
	}
}

// As many bytes as a chunk has at least, and at most, and one more.
func TestP1501HowManyChunks(t *testing.T) {
	for _, c := range []struct {
		data string
		want int
	}{
		{"", 0},
		{filled(short, 1), 1}, {filled(short, 15), 1}, {filled(short, 16), 1}, {filled(short, 17), 2}, {filled(short, 32), 2}, {filled(short, 33), 3}, {filled(short, 2000), 125},
		{filled(long, 1), 1}, {filled(long, 16), 1}, {filled(long, 17), 1}, {filled(long, 63), 1}, {filled(long, 64), 1}, {filled(long, 65), 2}, {filled(long, 128), 2}, {filled(long, 129), 3}, {filled(long, 2000), 32},
	} {
		l, f := ingest.Objects(empty(t), of(file("f", c.data)))
		if f != api.OK || len(l) != c.want+2 {
			t.Errorf("%d bytes %.1q: %d objects, fault %d, not %d chunks", len(c.data), c.data, len(l), f, c.want)
		}
	}
}

// One that comes twice comes twice: a chunk in one file, a file, a directory.
func TestP1501Twice(t *testing.T) {
	o := empty(t)
	chunk := store.Object{Kind: 1, Body: []byte(filled(short, 16))}
	f := wordsFile([]byte(filled(short, 48)))
	if !alike(f[:3], []store.Object{chunk, chunk, chunk}) {
		t.Fatalf("a file of %s", told(f))
	}
	d := wordsObjects(of(file("x", filled(short, 48))))
	none := wordsObjects(nil)
	last := func(u tree.Tree) store.Object {
		l := wordsObjects(u)
		return l[len(l)-1]
	}
	for _, c := range []struct {
		what string
		u    tree.Tree
		want [][]store.Object
	}{
		{"in one directory", of(file("a", filled(short, 48)), file("b", filled(short, 48))), [][]store.Object{f, f}},
		{"in two", of(dir("a"), file("a/x", filled(short, 48)), dir("b"), file("b/x", filled(short, 48))), [][]store.Object{d, d}},
		{"in one and above it", of(dir("a"), file("a/x", filled(short, 48)), file("b", filled(short, 48))), [][]store.Object{d, f}},
		{"no item", of(dir("a"), dir("b"), dir("c")), [][]store.Object{none, none, none}},
	} {
		makes(t, c.what, o, c.u, append(slices.Concat(c.want...), last(c.u))...)
	}
}

func TestP1501MostItems(t *testing.T) {
	o := empty(t)
	u := many(60)
	for i := range u {
		u[i].Data = []byte(filled(short, 2000))
	}
	l, f := ingest.Objects(o, u)
	if f != api.OK || len(l) != 60*126+1 || !alike(l, wordsObjects(u)) {
		t.Errorf("60 full files: %d objects, fault %d", len(l), f)
	}
	fails(t, "one more", o, append(u, file("z", "")), api.BadArg)
}

func TestP1501WrongTree(t *testing.T) {
	o := empty(t)
	for what, u := range wrongTrees() {
		fails(t, what, o, u, api.BadArg)
	}
	holds(t, "wrong trees", o)
}

// nobody: no store, and one that no Open made, which is as good as none.
func nobody() map[string]*store.Store {
	return map[string]*store.Store{"nil": nil, "zero": new(store.Store)}
}

func TestP1501NoStore(t *testing.T) {
	for what, o := range nobody() {
		for name, u := range rightTrees() {
			fails(t, what+", "+name, o, u, api.Nil)
		}
	}
}

// That there is no store is told first.
func TestP1501NoStoreAndAWrongTree(t *testing.T) {
	for what, o := range nobody() {
		for name, u := range wrongTrees() {
			fails(t, what+", "+name, o, u, api.Nil)
		}
	}
}

// Nothing is put, nothing is asked of the disk, and what is there tells nothing.
func TestP1501ObjectsPutsNothing(t *testing.T) {
	s := fresh(t, api.MaxDisk)
	o := open(t, s)
	steps := s.Steps()
	for what, u := range rightTrees() {
		makes(t, what, o, u, wordsObjects(u)...)
	}
	holds(t, "nothing was put", o)
	if o.Pending() != 0 || s.Steps() != steps {
		t.Errorf("%d wait, %d steps", o.Pending(), s.Steps()-steps)
	}
	l := wordsObjects(wood())
	puts(t, o, l[:9]...)
	makes(t, "some wait", o, wood(), l...)
	flush(t, o)
	puts(t, o, l[5:15]...)
	pending := o.Pending()
	makes(t, "some in packs", o, wood(), l...)
	if o.Pending() != pending {
		t.Errorf("%d wait, not %d", o.Pending(), pending)
	}
	puts(t, o, l...)
	flush(t, o)
	makes(t, "all in packs", o, wood(), l...)
	goesDown(t, s)
	makes(t, "down", o, wood(), l...)
}
