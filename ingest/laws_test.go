package ingest_test

import (
	"math/rand"
	"testing"

	"hayloft/api"
	"hayloft/ingest"
	"hayloft/tree"
)

// rootOf: the root of u, in a store.
func rootOf(t *testing.T, u tree.Tree) api.Hash {
	t.Helper()
	h, _, f := ingest.Ingest(empty(t), u)
	if f != api.OK {
		t.Fatalf("%s: fault %d", toldTree(u), f)
	}
	return h
}

// apart: trees each of which differs from some other one in one thing.
func apart() []tree.Tree {
	l := []tree.Tree{
		nil,
		of(file("a", "")), of(dir("a")), of(file("b", "")), of(dir("b")), of(file("aa", "")),
		of(file("a", "x")), of(file("a", "y")), of(file("a", "xx")), of(file("a", "\x00")), of(file("a", "\x00\x00")),
		of(file("a", ""), file("b", "")), of(dir("a"), file("b", "")), of(file("a", ""), dir("b")), of(dir("a"), dir("b")),
		of(file("a", "x"), file("b", "y")), of(file("a", "y"), file("b", "x")), of(file("a", "xy"), file("b", "")), of(file("a", ""), file("b", "xy")),
		of(dir("a"), file("a/b", "")), of(dir("a"), dir("a/b")), of(dir("b"), file("b/a", "")), of(dir("a"), file("a/b", "x")), of(dir("a"), file("a/b", ""), file("b", "")),
		of(dir("a"), dir("a/b"), file("a/b/c", "")), of(dir("a"), dir("a/b"), file("a/c", "")), of(dir("a"), dir("b"), file("b/c", "")),
		of(dir("a"), file("a.b", ""), file("a/x", "")), of(dir("a"), file("a.x", ""), file("a/b", "")),
		wood(),
	}
	for i := 1; i <= 6; i++ {
		l = append(l, chain("d", i))
	}
	for _, n := range []int{16, 17, 63, 64, 65, 1999, 2000} {
		l = append(l, of(file("a", filled(short, n))), of(file("a", filled(long, n))), of(file("b", filled(long, n))))
		turned := []byte(filled(long, n))
		turned[n-1] ^= 1
		l = append(l, of(file("a", string(turned))))
		turned[n-1] ^= 1
		turned[0] ^= 128
		l = append(l, of(file("a", string(turned))))
	}
	return l
}

func TestP1503OtherTreesHaveOtherRoots(t *testing.T) {
	l := apart()
	for i, u := range l {
		for _, v := range l[:i] {
			if tree.Same(u, v) {
				t.Fatalf("%s comes twice", toldTree(u))
			}
			if rootOf(t, u) == rootOf(t, v) {
				t.Errorf("%s and %s have one root", toldTree(u), toldTree(v))
			}
		}
	}
}

// One byte, one name, one flag of wood is another one.
func TestP1503NearTreesHaveOtherRoots(t *testing.T) {
	root := rootOf(t, wood())
	other := func(what string, u tree.Tree) {
		t.Helper()
		if rootOf(t, u) == root {
			t.Errorf("%s: the root is the same", what)
		}
	}
	for i, x := range wood() {
		for k := range x.Data {
			u := wood()
			u[i].Data[k] ^= 1
			other("a byte of "+x.Path, u)
		}
		u := wood()
		if !x.Dir {
			u[i].Data = append(u[i].Data, 0)
			other("a byte more in "+x.Path, u)
		}
		if gone, f := tree.Remove(wood(), x.Path, true); f == api.OK {
			other("without "+x.Path, gone)
		}
		moved, f := tree.Rename(wood(), x.Path, x.Path+"~")
		ok(t, f)
		other("another name for "+x.Path, moved)
		if x.Dir {
			more, f := tree.Mkdir(wood(), x.Path+"/new")
			ok(t, f)
			other("more in "+x.Path, more)
		}
	}
}

// Random trees: one root just where the trees are the same.
func TestP1503RandomTrees(t *testing.T) {
	r := rand.New(rand.NewSource(1503))
	seen := map[api.Hash]tree.Tree{}
	for range 400 {
		u := anyTree(r, r.Intn(60))
		for range 5 {
			h := rootOf(t, u)
			if v, is := seen[h]; is && !tree.Same(u, v) {
				t.Errorf("%s and %s have one root", toldTree(u), toldTree(v))
			}
			seen[h] = u
			u = edited(r, u)
		}
	}
	if len(seen) < 1000 {
		t.Errorf("just %d trees", len(seen))
	}
}

// The root hangs on nothing but the tree: not on the store, and not on nil or empty Data.
func TestP1503SameTreesHaveOneRoot(t *testing.T) {
	all := empty(t)
	for what, u := range rightTrees() {
		v := tree.Under(u, "")
		for i := range v {
			if len(v[i].Data) == 0 {
				v[i].Data = []byte{}
			}
		}
		w := tree.Under(u, "")
		for i := range w {
			if len(w[i].Data) == 0 {
				w[i].Data = nil
			}
		}
		want := rootOf(t, u)
		h, _, f := ingest.Ingest(all, v)
		if f != api.OK || h != want || rootOf(t, w) != want {
			t.Errorf("%s: other roots of one tree", what)
		}
	}
}

// A tree that is put again, once it waits, and once it is in packs, makes nothing new.
func TestP1503PutAgain(t *testing.T) {
	for what, u := range rightTrees() {
		o := empty(t)
		l := once(wordsObjects(u))
		ingests(t, what, o, u, len(l))
		ingests(t, what+", again", o, u, 0)
		waits(t, what+", again", o, l...)
		ingests(t, what+", flushed", o, u, 0)
		o = open(t, o.FS())
		ingests(t, what+", another Open", o, u, 0)
		if o.Pending() != 0 {
			t.Errorf("%s: %d wait", what, o.Pending())
		}
		holds(t, what, o, l...)
	}
}

// What stands in a directory of one tree is not new as another tree.
func TestP1503ADirectoryAsATree(t *testing.T) {
	o := empty(t)
	u := of(dir("a"), file("a/x", "1"), file("b", "2"))
	ingests(t, "the tree", o, u, 6)
	ingests(t, "its directory", o, of(file("x", "1")), 0)
	if h, _, _ := ingest.Ingest(o, of(file("x", "1"))); h != entry(t, o, rootOf(t, u), "a").Hash {
		t.Error("another name")
	}
}

// Objects and Ingest tell of one tree the same.
func TestP1503ObjectsAndIngest(t *testing.T) {
	for what, u := range rightTrees() {
		o := empty(t)
		l, f := ingest.Objects(o, u)
		h, n, g := ingest.Ingest(o, u)
		ok(t, f, g)
		if o.Name(l[len(l)-1]) != h || len(l) != n.Files+n.Dirs+n.Chunks || len(once(l)) != n.New {
			t.Errorf("%s: %d objects, %v", what, len(l), n)
		}
		holds(t, what, o, once(l)...)
	}
}
