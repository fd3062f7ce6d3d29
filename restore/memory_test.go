package restore_test

import (
	"slices"
	"testing"

	"hayloft/api"
	"hayloft/restore"
	"hayloft/store"
	"hayloft/tree"
)

// spoilBytes writes over all of b, its spare room too.
func spoilBytes(b []byte) {
	for i := range b[:cap(b)] {
		b[:cap(b)][i] = 0xDD
	}
}

// spoilTree writes over all of u, its spare room and that of each Data too.
func spoilTree(u tree.Tree) {
	for i := range u[:cap(u)] {
		x := &u[:cap(u)][i]
		spoilBytes(x.Data)
		*x = file("spoilt", "spoilt")
	}
}

// spoilLeaves writes over all of l, its spare room too.
func spoilLeaves(l []restore.Leaf) {
	for i := range l[:cap(l)] {
		l[:cap(l)][i] = restore.Leaf{Path: "spoilt", Size: -1}
	}
}

// twice: wood with one file, of many chunks that are alike, in several places.
func twice() tree.Tree {
	return append(wood(), file("x", filled(short, 200)), file("y", filled(short, 200)), file("z", filled(short, 16)))
}

// both: a store that has twice, where it waits, and where it stands in a pack.
func both(t *testing.T, do func(o *store.Store, h api.Hash, u tree.Tree)) {
	t.Helper()
	for _, at := range shapes(t) {
		o := empty(t)
		h := root(t, o, twice())
		do(at(o), h, twice())
	}
}

func TestP1601WhatIsHandedOutIsNew(t *testing.T) {
	both(t, func(o *store.Store, h api.Hash, u tree.Tree) {
		l, f := restore.Leaves(o, h)
		ok(t, f)
		was := slices.Clone(l)
		more, f := restore.Leaves(o, h)
		ok(t, f)
		spoilLeaves(more)
		if !slices.Equal(l, was) {
			t.Error("the leaves have changed with another answer")
		}
		spoilLeaves(l)
		leaves(t, "written over", o, h, was...)
		isTree(t, "written over", o, h, u)
	})
}

func TestP1602WhatIsHandedOutIsNew(t *testing.T) {
	for _, data := range []string{"x", filled(short, 16), filled(short, 200), filled(long, 2000), counted(1, 300)} {
		for where, at := range shapes(t) {
			o := empty(t)
			h := root(t, o, of(file("a", data)))
			o = at(o)
			l, f := restore.Leaves(o, h)
			ok(t, f)
			b, f := restore.File(o, l[0].Hash)
			more, g := restore.File(o, l[0].Hash)
			ok(t, f, g)
			spoilBytes(more)
			if string(b) != data {
				t.Errorf("%s: the bytes have changed with another answer", where)
			}
			spoilBytes(b)
			files(t, where+", written over", o, l[0].Hash, data)
		}
	}
}

func TestP1603WhatIsHandedOutIsNew(t *testing.T) {
	both(t, func(o *store.Store, h api.Hash, u tree.Tree) {
		v, f := restore.Restore(o, h)
		more, g := restore.Restore(o, h)
		ok(t, f, g)
		spoilTree(more)
		if !tree.Same(u, v) {
			t.Error("the tree has changed with another answer")
		}
		spoilTree(v)
		isTree(t, "written over", o, h, u)
	})
}

// Each Data of an answer is memory of its own, that of a file that stands in several places too.
func TestP1603ListsOfOneAnswerShareNothing(t *testing.T) {
	both(t, func(o *store.Store, h api.Hash, u tree.Tree) {
		v, f := restore.Restore(o, h)
		ok(t, f)
		for i := range v {
			spoilBytes(v[i].Data)
			v[i] = u[i]
			if !tree.Same(u, v) {
				t.Fatalf("%s shares memory with another item", u[i].Path)
			}
			v[i].Data = []byte(string(u[i].Data))
		}
	})
}

func TestP1604WhatIsHandedOutIsNew(t *testing.T) {
	both(t, func(o *store.Store, h api.Hash, u tree.Tree) {
		for _, x := range u {
			y, f := restore.Item(o, h, x.Path)
			more, g := restore.Item(o, h, x.Path)
			ok(t, f, g)
			spoilBytes(more.Data)
			if !tree.Same(of(x), of(y)) {
				t.Errorf("%s: has changed with another answer", x.Path)
			}
			spoilBytes(y.Data)
			item(t, "written over", o, h, x)
		}
	})
}

// No call changes what the store has.
func TestP1605NothingIsChanged(t *testing.T) {
	o := empty(t)
	h := root(t, o, wood())
	flush(t, o)
	g := root(t, o, twice())
	bad := dirOf(t, o, isFile("a", gone(1)))
	names, pending, steps := o.Names(), o.Pending(), o.FS().Steps()
	for _, root := range []api.Hash{h, g, bad, gone(1), {}} {
		restore.Leaves(o, root)
		restore.File(o, root)
		restore.Restore(o, root)
		restore.Item(o, root, "a/b")
	}
	if !slices.Equal(names, o.Names()) || pending != o.Pending() || steps != o.FS().Steps() {
		t.Error("the store has changed")
	}
	isTree(t, "as it was", o, h, wood())
	isTree(t, "as it was", o, g, twice())
}
