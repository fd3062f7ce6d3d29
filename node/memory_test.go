package node_test

import (
	"bytes"
	"slices"
	"testing"

	"hayloft/api"
	"hayloft/node"
	"hayloft/store"
)

// fill writes x into all of l, its spare room too.
func fill[T any](l []T, x T) {
	l = l[:cap(l)]
	for i := range l {
		l[i] = x
	}
}

// roomy: l with spare room behind it, which x fills.
func roomy[T any](l []T, x T) []T {
	out := make([]T, len(l), len(l)+4)
	copy(out, l)
	fill(out[len(out):], x)
	return out
}

// untouched: in is as roomy made it of l.
func untouched[T comparable](t *testing.T, what string, in, l []T, x T) {
	t.Helper()
	if !slices.Equal(in, l) || !slices.Equal(in[len(in):cap(in)], []T{x, x, x, x}) {
		t.Errorf("%s: what was handed in, or its spare room, has changed", what)
	}
}

func TestChunkIsNewMemory(t *testing.T) {
	in := roomy([]byte("hay"), 0xEE)
	o, _ := node.Chunk(in)
	p, _ := node.Chunk(in)
	fill(p.Body, 0)
	untouched(t, "Chunk", in, []byte("hay"), 0xEE)
	fill(in, 0)
	isObject(t, "written over", o, api.OK, 1, []byte("hay"))
	node.Links(p)
}

func TestFilesAreNewMemory(t *testing.T) {
	mark := named(77)
	for _, x := range []node.File{file(0, 0), file(9, 1), file(9, 5), file(2000, 125)} {
		in := roomy(x.Chunks, mark)
		o, _ := node.PutFile(node.File{Size: x.Size, Chunks: in})
		p, _ := node.PutFile(node.File{Size: x.Size, Chunks: in})
		fill(p.Body, 0)
		untouched(t, "PutFile", in, x.Chunks, mark)
		fill(in, api.Hash{})
		isObject(t, "written over", o, api.OK, 2, fileForm(x))

		b := roomy(fileForm(x), 0xEE)
		got, _ := node.GetFile(store.Object{Kind: 2, Body: b})
		more, _ := node.GetFile(store.Object{Kind: 2, Body: b})
		l, _ := node.Links(store.Object{Kind: 2, Body: b})
		other, _ := node.Links(store.Object{Kind: 2, Body: b})
		fill(more.Chunks, mark)
		fill(other, mark)
		untouched(t, "GetFile, Links", b, fileForm(x), 0xEE)
		fill(b, 0)
		if !sameFile(got, x) || !slices.Equal(l, x.Chunks) {
			t.Error("what was handed out has changed with the bytes, or with another answer")
		}
	}
}

func TestDirectoriesAreNewMemory(t *testing.T) {
	mark := isDir("mark", 77)
	for _, l := range [][]node.Entry{{}, {isFile("a", 1)}, several(), many(60)} {
		in := roomy(l, mark)
		o, _ := node.PutDir(in)
		p, _ := node.PutDir(in)
		fill(p.Body, 0)
		untouched(t, "PutDir", in, l, mark)
		fill(in, node.Entry{})
		isObject(t, "written over", o, api.OK, 3, dirForm(l...))

		b := roomy(dirForm(l...), 0xEE)
		got, _ := node.GetDir(store.Object{Kind: 3, Body: b})
		more, _ := node.GetDir(store.Object{Kind: 3, Body: b})
		hs, _ := node.Links(store.Object{Kind: 3, Body: b})
		other, _ := node.Links(store.Object{Kind: 3, Body: b})
		want := slices.Clone(hs)
		fill(more, mark)
		fill(other, named(99))
		untouched(t, "GetDir, Links", b, dirForm(l...), 0xEE)
		fill(b, 0)
		are(t, "written over", got, l...)
		if !slices.Equal(hs, want) {
			t.Error("the links have changed with the bytes, or with another answer")
		}
	}
}

func TestSortIsNewMemory(t *testing.T) {
	mark := isDir("mark", 77)
	mixed := []node.Entry{isFile("b", 1), isFile("a", 2), isDir("b", 3), isFile("c", 4), isFile("a", 5)}
	for _, l := range [][]node.Entry{{}, several(), mixed, mixed[:2]} {
		in := roomy(l, mark)
		out, other := node.Sort(in), node.Sort(in)
		fill(other, node.Entry{})
		_ = append(other, node.Entry{})
		untouched(t, "Sort", in, l, mark)
		fill(in, node.Entry{})
		are(t, "written over", out, wordsSort(l)...)
	}
}

func TestFindDoesNotTouch(t *testing.T) {
	mark := isDir("mark", 77)
	for _, l := range [][]node.Entry{several(), {isFile("b", 1), isFile("a", 2)}, many(61)} {
		in := roomy(l, mark)
		for _, name := range []string{"a", "mark", "", "!", "~"} {
			node.Find(in, name)
		}
		untouched(t, "Find", in, l, mark)
	}
}

// With a fault, too, nothing that was handed in is changed.
func TestFaultsDoNotTouch(t *testing.T) {
	for _, l := range [][]byte{dirForm(isFile("b", 1), isFile("a", 2)), fileForm(file(1, 2)), bytes.Repeat([]byte{3}, 70)} {
		b := roomy(l, 0xEE)
		for kind := range 5 {
			o := store.Object{Kind: kind, Body: b}
			node.GetFile(o)
			node.GetDir(o)
			node.Links(o)
		}
		untouched(t, "the Body", b, l, 0xEE)
	}
	mark := named(77)
	in := roomy(hashes(3), mark)
	node.PutFile(node.File{Size: 2, Chunks: in})
	untouched(t, "PutFile", in, hashes(3), mark)
	wrong := []node.Entry{isFile("b", 1), isFile("a", 2)}
	entries := roomy(wrong, isDir("mark", 77))
	node.PutDir(entries)
	untouched(t, "PutDir", entries, wrong, isDir("mark", 77))
}
