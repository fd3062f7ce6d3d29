package tree_test

import (
	"bytes"
	"slices"
	"testing"

	"hayloft/api"
	"hayloft/tree"
)

// roomy: l in memory of its own, with spare room behind the list and behind each Data.
func roomy(l tree.Tree) tree.Tree {
	out := make(tree.Tree, len(l), len(l)+3)
	for i, x := range l {
		out[i] = api.Item{Path: x.Path, Dir: x.Dir, Data: room(x.Data)}
	}
	for i := range out[len(l):cap(out)] {
		out[:cap(out)][len(l)+i] = file("spare", "spare")
	}
	return out
}

// room: b in memory of its own, with spare room of 0xEE.
func room(b []byte) []byte {
	out := append(make([]byte, 0, len(b)+3), b...)
	copy(out[len(b):cap(out)], "\xEE\xEE\xEE")
	return out
}

// untouched: in is as roomy made it of l.
func untouched(t *testing.T, what string, in, l tree.Tree) {
	t.Helper()
	all, want := in[:cap(in)], roomy(l)[:len(l)+3]
	if !same(all, want) {
		t.Errorf("%s: what was handed in, or its spare room, has changed: %s, not %s", what, told(all), told(want))
	}
	for _, x := range in {
		if !bytes.Equal(x.Data[len(x.Data):cap(x.Data)], []byte("\xEE\xEE\xEE")) {
			t.Errorf("%s: the spare room of the Data of %s has changed", what, x.Path)
		}
	}
}

// spoil writes over all of l, its spare room and that of each Data too.
func spoil(l tree.Tree) {
	for i := range l[:cap(l)] {
		x := &l[:cap(l)][i]
		spoilBytes(x.Data)
		*x = file("spoilt", "spoilt")
	}
}

func spoilBytes(b []byte) {
	for i := range b[:cap(b)] {
		b[:cap(b)][i] = 0xDD
	}
}

// calls: all that answer a tree, or an item, of l, each in the ways in which it can go.
func calls(l tree.Tree) map[string]func() tree.Tree {
	only := func(got tree.Tree, _ api.Fault) tree.Tree { return got }
	return map[string]func() tree.Tree{
		"Find of a file":         func() tree.Tree { x, _ := tree.Find(l, "f"); return tree.Tree{x} },
		"Find of a directory":    func() tree.Tree { x, _ := tree.Find(l, "a"); return tree.Tree{x} },
		"Find of nothing":        func() tree.Tree { x, _ := tree.Find(l, "b"); return tree.Tree{x} },
		"Under the root":         func() tree.Tree { return tree.Under(l, "") },
		"Under a directory":      func() tree.Tree { return tree.Under(l, "a") },
		"Under a file":           func() tree.Tree { return tree.Under(l, "f") },
		"Under nothing":          func() tree.Tree { return tree.Under(l, "b") },
		"Mkdir at the front":     func() tree.Tree { return only(tree.Mkdir(l, "!")) },
		"Mkdir in the midst":     func() tree.Tree { return only(tree.Mkdir(l, "b")) },
		"Mkdir at the end":       func() tree.Tree { return only(tree.Mkdir(l, "z")) },
		"Mkdir of what is there": func() tree.Tree { return only(tree.Mkdir(l, "a")) },
		"Write at the front":     func() tree.Tree { return only(tree.Write(l, "!", []byte("new"))) },
		"Write in the midst":     func() tree.Tree { return only(tree.Write(l, "e/e", []byte("new"))) },
		"Write at the end":       func() tree.Tree { return only(tree.Write(l, "z", []byte("new"))) },
		"Write of what is there": func() tree.Tree { return only(tree.Write(l, "a/x", []byte("new"))) },
		"Write of a directory":   func() tree.Tree { return only(tree.Write(l, "a", []byte("new"))) },
		"Remove of a file":       func() tree.Tree { return only(tree.Remove(l, "f", false)) },
		"Remove at the front":    func() tree.Tree { return only(tree.Remove(l, "a", true)) },
		"Remove in the midst":    func() tree.Tree { return only(tree.Remove(l, "a/b", true)) },
		"Remove of nothing":      func() tree.Tree { return only(tree.Remove(l, "b", true)) },
		"Rename of a file":       func() tree.Tree { return only(tree.Rename(l, "f", "b")) },
		"Rename of a directory":  func() tree.Tree { return only(tree.Rename(l, "a", "e/a")) },
		"Rename to itself":       func() tree.Tree { return only(tree.Rename(l, "a", "a")) },
		"Rename into itself":     func() tree.Tree { return only(tree.Rename(l, "a", "a/z")) },
		"Rename too deep":        func() tree.Tree { return only(tree.Rename(l, "a/b", "a/b/c/z")) },
	}
}

// manyCalls: calls of wood, of a list out of order, and of one with Data at a directory.
func manyCalls(t *testing.T, check func(what string, in, l tree.Tree, call func() tree.Tree)) {
	t.Helper()
	turned := wood()
	slices.Reverse(turned)
	odd := wood()
	odd[0].Data = []byte("none may be")
	for _, l := range []tree.Tree{wood(), turned, odd} {
		for what := range calls(l) {
			in := roomy(l)
			check(what, in, l, calls(in)[what])
		}
	}
}

func TestP1306WhatIsHandedInIsNotChanged(t *testing.T) {
	manyCalls(t, func(what string, in, l tree.Tree, call func() tree.Tree) {
		call()
		untouched(t, what, in, l)
		spoil(call())
		untouched(t, what+", written over", in, l)
		_ = append(call(), file("more", "more"))
		untouched(t, what+", made longer", in, l)
	})
	in := roomy(wood())
	tree.Right(in)
	tree.Same(in, in)
	tree.Bytes(in)
	tree.Find(in, "f")
	untouched(t, "Right, Same, Bytes, Find", in, wood())
}

func TestP1306WhatIsHandedInIsNotKept(t *testing.T) {
	manyCalls(t, func(what string, in, l tree.Tree, call func() tree.Tree) {
		got := call()
		want := roomy(got)
		spoil(in)
		are(t, what+", what was handed in is written over", got, want...)
	})
}

func TestP1306TwoAnswersShareNothing(t *testing.T) {
	manyCalls(t, func(what string, in, l tree.Tree, call func() tree.Tree) {
		got := call()
		want := roomy(got)
		spoil(call())
		are(t, what+", another answer is written over", got, want...)
	})
}

// Each Data of an answer is memory of its own, its spare room too.
func TestP1306ListsOfOneAnswerShareNothing(t *testing.T) {
	manyCalls(t, func(what string, in, l tree.Tree, call func() tree.Tree) {
		for i := range call() {
			got := call()
			want := roomy(got)
			spoilBytes(got[i].Data)
			got[i], want[i] = api.Item{}, api.Item{}
			are(t, what+", one Data is written over", got, want...)
		}
	})
}

func TestP1303DataIsNotKept(t *testing.T) {
	for _, data := range []string{"", "some bytes", "x"} {
		for _, p := range []string{"new", "f", "a/b/c/e"} {
			in := room([]byte(data))
			got, f := tree.Write(wood(), p, in)
			want := roomy(got)
			if f != api.OK || !bytes.Equal(in[:cap(in)], []byte(data+"\xEE\xEE\xEE")) {
				t.Errorf("Write %s: fault %d, %q", p, f, in[:cap(in)])
			}
			spoilBytes(in)
			are(t, "Write, Data written over", got, want...)
			in = room([]byte(data))
			got, _ = tree.Write(wood(), p, in)
			spoil(got)
			if !bytes.Equal(in[:cap(in)], []byte(data+"\xEE\xEE\xEE")) {
				t.Errorf("Write %s: what is written into the answer is seen: %q", p, in[:cap(in)])
			}
		}
	}
}

// A list with no item, and Data of no byte, but with spare room: none of that is handed out.
func TestP1306SpareRoomIsNotHandedOut(t *testing.T) {
	none := roomy(nil)
	bare := roomy(of(dir("a"), file("a/b", ""), file("f", "")))
	l, _ := tree.Mkdir(none, "z")
	k, _ := tree.Write(none, "z", room(nil))
	m, _ := tree.Mkdir(bare, "z")
	n, _ := tree.Rename(bare, "a", "z")
	o, _ := tree.Remove(bare, "f", false)
	x, _ := tree.Find(bare, "a/b")
	for _, got := range []tree.Tree{l, k, m, n, o, {x}, tree.Under(none, ""), tree.Under(bare, "a"), tree.Under(bare, "")} {
		for i := range got {
			got[i].Data = append(got[i].Data, "seen?"...)
		}
		spoil(append(got, file("seen?", "seen?")))
	}
	untouched(t, "no item", none, nil)
	untouched(t, "no Data", bare, of(dir("a"), file("a/b", ""), file("f", "")))
}
