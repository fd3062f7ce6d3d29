package node_test

import (
	"bytes"
	"math/rand"
	"slices"
	"testing"

	"hayloft/api"
	"hayloft/node"
	"hayloft/simfs"
	"hayloft/store"
)

// bodies: what was put under each body.
type bodies[T any] struct {
	seen map[string]T
	same func(a, b T) bool
}

// other: whether something that is not the same has that body.
func (b bodies[T]) other(o store.Object, x T) bool {
	y, ok := b.seen[string(o.Body)]
	b.seen[string(o.Body)] = x
	return ok && !b.same(x, y)
}

func TestP1405FilesThatArePut(t *testing.T) {
	r := rand.New(rand.NewSource(1405))
	seen := bodies[node.File]{map[string]node.File{}, sameFile}
	l := rightFiles()
	for range 20000 {
		if x := anyFile(r); wordsRightFile(x) {
			l = append(l, x)
		}
	}
	for _, x := range l {
		o, f := node.PutFile(x)
		if f != api.OK {
			t.Fatalf("%s: fault %d", toldFile(x), f)
		}
		getsFile(t, "put", o.Body, x)
		if seen.other(o, x) {
			t.Errorf("%s: another file has that Body", toldFile(x))
		}
	}
	if len(seen.seen) < 8000 {
		t.Errorf("just %d bodies", len(seen.seen))
	}
}

func TestP1405EntriesThatArePut(t *testing.T) {
	r := rand.New(rand.NewSource(1405))
	seen := bodies[[]node.Entry]{map[string][]node.Entry{}, slices.Equal[[]node.Entry]}
	var all [][]node.Entry
	for _, l := range rightDirs() {
		all = append(all, l)
	}
	for range 3000 {
		all = append(all, anyRight(r))
	}
	for _, l := range all {
		o, f := node.PutDir(l)
		if f != api.OK {
			t.Fatalf("%s: fault %d", told(l), f)
		}
		getsDir(t, "put", o.Body, l...)
		got, _ := node.GetDir(o)
		for _, e := range l {
			finds(t, "put, got", got, e)
		}
		if seen.other(o, l) {
			t.Errorf("%s: other entries have that Body", told(l))
		}
	}
	if len(seen.seen) < 2000 {
		t.Errorf("just %d bodies", len(seen.seen))
	}
}

// Files that differ in one thing.
func TestP1405OtherFilesHaveOtherBodies(t *testing.T) {
	a, b := named(1), named(2)
	bit := a
	bit[31] ^= 1
	l := []node.File{
		{}, {Size: 1, Chunks: []api.Hash{a}}, {Size: 2, Chunks: []api.Hash{a}}, {Size: 256, Chunks: []api.Hash{a}}, {Size: 512, Chunks: []api.Hash{a}}, {Size: 2000, Chunks: []api.Hash{a}},
		{Size: 2, Chunks: []api.Hash{b}}, {Size: 2, Chunks: []api.Hash{bit}}, {Size: 2, Chunks: []api.Hash{{}}},
		{Size: 2, Chunks: []api.Hash{a, a}}, {Size: 2, Chunks: []api.Hash{a, b}}, {Size: 2, Chunks: []api.Hash{b, a}},
		{Size: 3, Chunks: []api.Hash{a, b}}, {Size: 3, Chunks: []api.Hash{a, b, a}}, {Size: 3, Chunks: []api.Hash{a, a, b}},
	}
	for i, x := range l {
		for _, y := range l[:i] {
			o, f := node.PutFile(x)
			p, g := node.PutFile(y)
			if f != api.OK || g != api.OK || bytes.Equal(o.Body, p.Body) {
				t.Errorf("%s and %s: faults %d, %d, or one Body", toldFile(x), toldFile(y), f, g)
			}
		}
	}
}

// Entries that differ in one thing.
func TestP1405OtherEntriesHaveOtherBodies(t *testing.T) {
	all := [][]node.Entry{
		nil, {isFile("a", 1)}, {isDir("a", 1)}, {isFile("a", 2)}, {isFile("b", 1)}, {isFile("aa", 1)}, {{Name: "a"}}, {{Name: "a", Dir: true}},
		{isFile("a", 1), isFile("b", 1)}, {isFile("a", 1), isDir("b", 1)}, {isDir("a", 1), isFile("b", 1)}, {isFile("a", 1), isFile("b", 2)}, {isFile("a", 2), isFile("b", 1)},
		{isFile("a", 1), isFile("c", 1)}, {isFile("a", 1), isFile("b", 1), isFile("c", 1)},
	}
	for i, x := range all {
		for _, y := range all[:i] {
			o, f := node.PutDir(x)
			p, g := node.PutDir(y)
			if f != api.OK || g != api.OK || bytes.Equal(o.Body, p.Body) {
				t.Errorf("%s and %s: faults %d, %d, or one Body", told(x), told(y), f, g)
			}
		}
	}
}

// Whatever is sorted, and of parts, and no more than 60, is right, put and got.
func TestP1405WhatIsSortedIsPut(t *testing.T) {
	r := rand.New(rand.NewSource(1405))
	for range 1000 {
		l := anyRight(r)
		want := slices.Clone(l)
		r.Shuffle(len(l), func(i, k int) { l[i], l[k] = l[k], l[i] })
		o, f := node.PutDir(node.Sort(l))
		if f != api.OK {
			t.Fatalf("%s: fault %d", told(l), f)
		}
		getsDir(t, "sorted, put", o.Body, want...)
	}
}

// What PutFile answers is an object for a store, too, up to the last chunk that has room, and
// beyond it nothing is answered that a store could refuse.
func TestP1405FilesThatAStoreTakes(t *testing.T) {
	fs, _ := simfs.New(api.MaxDisk)
	s, f := store.Open(fs)
	if f != api.OK {
		t.Fatalf("fault %d", f)
	}
	for n := mostChunks - 2; n <= mostChunks+3; n++ {
		for _, size := range []int{n, api.MaxFile} {
			x := file(size, n)
			o, f := node.PutFile(x)
			if f != api.OK {
				noObject(t, toldFile(x), o, f)
				continue
			}
			h, f := s.Put(o)
			if f != api.OK {
				t.Errorf("%s: the store's fault %d", toldFile(x), f)
				continue
			}
			got, f := s.Get(h)
			if f != api.OK {
				t.Errorf("%s: got with fault %d", toldFile(x), f)
			}
			getsFile(t, "through a store", got.Body, x)
		}
	}
	if s.Pending() != 6 {
		t.Errorf("%d files, not 6, were taken", s.Pending())
	}
}

// A store keeps a chunk, a file and a directory, each by the name that the next one has in it.
func TestP1405ThroughAStore(t *testing.T) {
	fs, _ := simfs.New(api.MaxDisk)
	s, f := store.Open(fs)
	if f != api.OK {
		t.Fatalf("fault %d", f)
	}
	keep := func(o store.Object, f api.Fault) api.Hash {
		t.Helper()
		h, g := s.Put(o)
		if f != api.OK || g != api.OK {
			t.Fatalf("faults %d, %d", f, g)
		}
		return h
	}
	got := func(h api.Hash) store.Object {
		t.Helper()
		o, f := s.Get(h)
		if f != api.OK {
			t.Fatalf("fault %d", f)
		}
		return o
	}
	chunk := keep(node.Chunk([]byte("hay")))
	x := node.File{Size: 6, Chunks: []api.Hash{chunk, chunk}}
	l := append(many(59), node.Entry{Name: "x", Hash: keep(node.PutFile(x))})
	root := keep(node.PutDir(l))
	if _, f := s.Flush(); f != api.OK {
		t.Fatalf("fault %d", f)
	}
	dir := got(root)
	getsDir(t, "the root", dir.Body, l...)
	e, _ := node.Find(l, "x")
	getsFile(t, "the file", got(e.Hash).Body, x)
	if o := got(chunk); o.Kind != 1 || string(o.Body) != "hay" {
		t.Errorf("kind %d, %q", o.Kind, o.Body)
	}
}
