package ingest_test

import (
	"bytes"
	"testing"

	"hayloft/api"
	"hayloft/ingest"
	"hayloft/store"
	"hayloft/tree"
)

// spare: what stands in the spare room of bytes that are handed in.
const spare = "\xEE\xEE\xEE"

// room: b in memory of its own, with spare room.
func room(b []byte) []byte {
	out := append(make([]byte, 0, len(b)+len(spare)), b...)
	copy(out[len(b):cap(out)], spare)
	return out
}

// roomy: u in memory of its own, with spare room behind the list and behind each Data.
func roomy(u tree.Tree) tree.Tree {
	out := make(tree.Tree, len(u), len(u)+3)
	for i, x := range u {
		out[i] = api.Item{Path: x.Path, Dir: x.Dir, Data: room(x.Data)}
	}
	for i := len(u); i < cap(out); i++ {
		out[:cap(out)][i] = file("spare", "spare")
	}
	return out
}

// untouched: in is as roomy made it of u.
func untouched(t *testing.T, what string, in, u tree.Tree) {
	t.Helper()
	if !tree.Same(in[:cap(in)], roomy(u)[:len(u)+3]) {
		t.Errorf("%s: what was handed in, or its spare room, has changed", what)
	}
	for _, x := range in {
		if string(x.Data[len(x.Data):cap(x.Data)]) != spare {
			t.Errorf("%s: the spare room of the Data of %s has changed", what, x.Path)
		}
	}
}

// spoil writes over all of u, its spare room and that of each Data too.
func spoil(u tree.Tree) {
	for i := range u[:cap(u)] {
		x := &u[:cap(u)][i]
		spoilBytes(x.Data)
		*x = file("spoilt", "spoilt")
	}
}

func spoilBytes(b []byte) {
	for i := range b[:cap(b)] {
		b[:cap(b)][i] = 0xDD
	}
}

// spoilObjects writes over all of l, its spare room and that of each Body too.
func spoilObjects(l []store.Object) {
	for i := range l[:cap(l)] {
		x := &l[:cap(l)][i]
		spoilBytes(x.Body)
		*x = store.Object{Kind: 9, Body: []byte("spoilt")}
	}
}

// someTrees: right ones, and some that are not.
func someTrees() []tree.Tree {
	l := []tree.Tree{nil, {}, wood(), of(dir("a"), dir("a/b"), dir("c")), of(file("a", filled(short, 2000)), file("b", filled(short, 2000)))}
	return append(l, of(file("b", "wrong"), file("a", "order")), of(file("a", filled(long, 2001))), of(file("a b", "blank"), file("c", "x")))
}

func TestP1501WhatIsHandedInIsNotChanged(t *testing.T) {
	o := empty(t)
	for _, u := range someTrees() {
		in := roomy(u)
		l, _ := ingest.Objects(o, in)
		untouched(t, "Objects", in, u)
		spoilObjects(l)
		untouched(t, "Objects, written over", in, u)
		ingest.Ingest(o, in)
		untouched(t, "Ingest", in, u)
		ingest.Ingest(nil, in)
		ingest.Objects(nil, in)
		untouched(t, "with no store", in, u)
	}
}

func TestP1501WhatIsHandedInIsNotKept(t *testing.T) {
	o := empty(t)
	for _, u := range someTrees()[:5] {
		in := roomy(u)
		l, f := ingest.Objects(o, in)
		ok(t, f)
		spoil(in)
		if !alike(l, wordsObjects(u)) {
			t.Errorf("%s: the objects have changed with the tree", toldTree(u))
		}
	}
}

func TestP1501TwoAnswersShareNothing(t *testing.T) {
	o := empty(t)
	for _, u := range someTrees()[:5] {
		l, f := ingest.Objects(o, u)
		more, g := ingest.Objects(o, u)
		ok(t, f, g)
		spoilObjects(more)
		if !alike(l, wordsObjects(u)) {
			t.Errorf("%s: the objects have changed with another answer", toldTree(u))
		}
		makes(t, "a third one", o, u, wordsObjects(u)...)
	}
}

// Each Body of an answer is memory of its own, that of an object that comes twice too.
func TestP1501ListsOfOneAnswerShareNothing(t *testing.T) {
	o := empty(t)
	for _, u := range someTrees()[:5] {
		want := wordsObjects(u)
		l, f := ingest.Objects(o, u)
		ok(t, f)
		for i := range l {
			spoilBytes(l[i].Body)
			l[i] = want[i]
			if !alike(l, want) {
				t.Fatalf("%s: object %d shares memory with another one", toldTree(u), i)
			}
			l[i].Body = bytes.Clone(want[i].Body)
		}
	}
}

// What a store has is seen by nobody: neither the tree nor the objects, written over, change it.
func TestP1502TheStoreKeepsNothingOfTheTree(t *testing.T) {
	for _, u := range someTrees()[:5] {
		o := empty(t)
		in := roomy(u)
		l, f := ingest.Objects(o, in)
		ok(t, f)
		_, _, f = ingest.Ingest(o, in)
		ok(t, f)
		spoil(in)
		spoilObjects(l)
		holds(t, "written over", o, once(wordsObjects(u))...)
		waits(t, "written over", o, once(wordsObjects(u))...)
	}
}

func TestP1502FileTouchesAndKeepsNothing(t *testing.T) {
	for what, data := range sizes() {
		o := empty(t)
		in := room([]byte(data))
		ingest.File(o, in)
		ingest.File(nil, in)
		if string(in) != data || string(in[len(in):cap(in)]) != spare {
			t.Errorf("%s: what was handed in, or its spare room, has changed", what)
		}
		spoilBytes(in)
		waits(t, what+", written over", o, once(wordsFile([]byte(data)))...)
	}
	in := room(make([]byte, 2001))
	ingest.File(empty(t), in)
	if !bytes.Equal(in, make([]byte, 2001)) || string(in[2001:cap(in)]) != spare {
		t.Error("too many bytes: what was handed in has changed")
	}
}
