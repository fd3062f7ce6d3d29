package node_test

import (
	"bytes"
	"fmt"
	"testing"

	"hayloft/api"
	"hayloft/node"
	"hayloft/store"
)

func TestP1403LinksOfChunks(t *testing.T) {
	for _, n := range []int{1, 2, 64, 65, 2001, 4095, 4096} {
		links(t, fmt.Sprint(n, " bytes"), 1, bytes.Repeat([]byte{3, 0}, n)[:n])
	}
	links(t, "a directory's bytes", 1, dirForm(several()...))
	links(t, "a file's bytes", 1, fileForm(file(60, 60)))
	links(t, "any bytes", 1, []byte{255})
	for _, b := range [][]byte{nil, {}, make([]byte, 4097), make([]byte, 5000), make([]byte, 5001), make([]byte, 65537)} {
		noLinks(t, fmt.Sprint(len(b), " bytes"), 1, b, api.Malformed)
	}
}

// In the order of the file, and each as often as it is there.
func TestP1403LinksOfFiles(t *testing.T) {
	links(t, "none", 2, fileForm(file(0, 0)))
	links(t, "one", 2, fileForm(file(1, 1)), named(5000))
	a, b := api.Hash{31: 1}, api.Hash{1}
	links(t, "falling", 2, fileForm(node.File{Size: 9, Chunks: []api.Hash{b, a}}), b, a)
	links(t, "some twice", 2, fileForm(node.File{Size: 9, Chunks: []api.Hash{a, b, a, a, {}}}), a, b, a, a, api.Hash{})
	links(t, "many", 2, fileForm(file(2000, 125)), hashes(125)...)
}

// As many as an object has room for, and one more, with the smallest Size and the greatest.
func TestP1403LinksOfFilesOfMoreThanAnObject(t *testing.T) {
	links(t, "142, Size 142", 2, fileForm(file(142, 142)), hashes(142)...)
	links(t, "142, Size 2000", 2, fileForm(file(2000, 142)), hashes(142)...)
	for _, n := range []int{143, 144, 200, 1871, 1872} {
		noLinks(t, fmt.Sprint(n, " chunks"), 2, fileForm(file(n, n)), api.Malformed)
		noLinks(t, fmt.Sprint(n, " chunks, Size 2000"), 2, fileForm(file(2000, n)), api.Malformed)
	}
	for _, kind := range otherKinds(1, 2, 3) {
		noLinks(t, fmt.Sprint("143 chunks, kind ", kind), kind, fileForm(file(143, 143)), api.BadArg)
	}
}

// In the order of the entries, of files and of directories, and each as often as it is there.
func TestP1403LinksOfDirectories(t *testing.T) {
	links(t, "none", 3, dirForm())
	links(t, "one", 3, dirForm(isFile("a", 4)), named(4))
	links(t, "several", 3, dirForm(several()...), named(9), named(8), named(7), named(3), named(3), named(1), named(2), named(4), named(5), named(6), named(6))
	links(t, "the zero hash", 3, dirForm(node.Entry{Name: "a"}, node.Entry{Name: "b", Dir: true}), api.Hash{}, api.Hash{})
	var want []api.Hash
	for _, e := range many(60) {
		want = append(want, e.Hash)
	}
	links(t, "60", 3, dirForm(many(60)...), want...)
}

// That the Body is wrong is told, too, of what the other kind's Body would be.
func TestP1403LinksOfWrongBodies(t *testing.T) {
	for _, kind := range []int{2, 3} {
		for what, b := range map[string][]byte{
			"nothing":    nil,
			"a byte":     []byte("x"),
			"a number":   num(2),
			"bytes":      form(2, []byte("x")),
			"cut":        fileForm(file(2, 1))[:30],
			"4096 bytes": make([]byte, 4096),
			"4097 bytes": make([]byte, 4097),
		} {
			noLinks(t, what, kind, b, api.Malformed)
		}
	}
	noLinks(t, "a file as a directory", 3, fileForm(file(2, 1)), api.Malformed)
	noLinks(t, "a directory as a file", 2, dirForm(several()...), api.Malformed)
	noLinks(t, "an empty directory as a file", 2, dirForm(), api.Malformed)
	noLinks(t, "a wrong file", 2, fileForm(file(1, 2)), api.Malformed)
	noLinks(t, "wrong entries", 3, dirForm(isFile("b", 1), isFile("a", 1)), api.Malformed)
}

// Another kind is told ahead of what the Body is.
func TestP1403LinksOfOtherKinds(t *testing.T) {
	for _, kind := range otherKinds(1, 2, 3) {
		for _, b := range [][]byte{nil, {}, []byte("x"), fileForm(file(2, 1)), dirForm(several()...), dirForm(), make([]byte, 4097), make([]byte, 70000)} {
			noLinks(t, fmt.Sprint("kind ", kind), kind, b, api.BadArg)
		}
	}
}

// Of what is put.
func TestP1403LinksOfWhatIsPut(t *testing.T) {
	put := func(o store.Object, f api.Fault) store.Object {
		t.Helper()
		if f != api.OK {
			t.Fatalf("fault %d", f)
		}
		return o
	}
	c := put(node.Chunk([]byte("hay")))
	links(t, "a chunk", c.Kind, c.Body)
	x := put(node.PutFile(file(20, 3)))
	links(t, "a file", x.Kind, x.Body, hashes(3)...)
	d := put(node.PutDir([]node.Entry{isFile("a", 2), isDir("b", 1)}))
	links(t, "a directory", d.Kind, d.Body, named(2), named(1))
}
