package node_test

import (
	"bytes"
	"encoding/binary"
	"fmt"
	"math"
	"slices"
	"strings"
	"testing"

	"hayloft/api"
	"hayloft/node"
	"hayloft/store"
)

// named: a hash whose first bytes are n, the highest first; none of its ends is 0.
func named(n int) (h api.Hash) {
	binary.BigEndian.PutUint32(h[:], uint32(n)|1<<30)
	h[31] = 7
	return h
}

// hashes: n of them, each another one, falling.
func hashes(n int) []api.Hash {
	var l []api.Hash
	for i := range n {
		l = append(l, named(5000-i))
	}
	return l
}

// file: of so many bytes, in so many chunks.
func file(size, chunks int) node.File {
	return node.File{Size: size, Chunks: hashes(chunks)}
}

func isFile(name string, n int) node.Entry {
	return node.Entry{Name: name, Hash: named(n)}
}

func isDir(name string, n int) node.Entry {
	return node.Entry{Name: name, Dir: true, Hash: named(n)}
}

// several: right entries, of both sorts, whose names are in no other order than that of their bytes.
func several() []node.Entry {
	return []node.Entry{
		isFile("!", 9), isDir("-", 8), isFile("0", 7), isFile("A", 3), isDir("B.c", 3), isFile("B0", 1),
		isDir("a", 2), isFile("aa", 4), isDir("ab", 5), isFile("b", 6), isDir("~", 6),
	}
}

// many: n entries with rising names of 20 bytes, each second one a directory.
func many(n int) []node.Entry {
	var l []node.Entry
	for i := range n {
		l = append(l, node.Entry{Name: fmt.Sprintf("n%019d", i), Dir: i%2 == 1, Hash: named(n - i)})
	}
	return l
}

// form: a tag, how many bytes there are, and they.
func form(tag byte, in ...[]byte) []byte {
	b := bytes.Join(in, nil)
	return append([]byte{tag, byte(len(b) >> 8), byte(len(b))}, b...)
}

// num: a number's form.
func num(n uint64) []byte {
	b := binary.BigEndian.AppendUint64(nil, n)
	for len(b) > 0 && b[0] == 0 {
		b = b[1:]
	}
	return form(1, b)
}

// chunksForm: the list of their names.
func chunksForm(l ...api.Hash) []byte {
	var in [][]byte
	for _, h := range l {
		in = append(in, form(2, h[:]))
	}
	return form(3, in...)
}

// fileForm: the form of a file, right or not, of a Size from 0 on.
func fileForm(x node.File) []byte {
	return form(3, num(uint64(x.Size)), chunksForm(x.Chunks...))
}

func entryForm(e node.Entry) []byte {
	n := uint64(0)
	if e.Dir {
		n = 1
	}
	return form(3, form(2, []byte(e.Name)), num(n), form(2, e.Hash[:]))
}

// dirForm: the form of entries, right or not.
func dirForm(l ...node.Entry) []byte {
	var in [][]byte
	for _, e := range l {
		in = append(in, entryForm(e))
	}
	return form(3, in...)
}

// otherKinds: all of some range, and the ends of all, but for these.
func otherKinds(but ...int) []int {
	l := []int{math.MinInt, math.MinInt32, -256, 255, 256, math.MaxInt32, math.MaxInt}
	for k := -4; k < 12; k++ {
		l = append(l, k)
	}
	for _, k := range []int{1, 2, 3} { // whose lowest bits alone would do
		l = append(l, k+256, k+1<<16, k-256, -k)
	}
	l = append(l, 1<<32+1, 1<<32+2, 1<<32+3)
	return slices.DeleteFunc(l, func(k int) bool { return slices.Contains(but, k) })
}

// isObject: no fault, and just that object.
func isObject(t *testing.T, what string, o store.Object, f api.Fault, kind int, want []byte) {
	t.Helper()
	if f != api.OK || o.Kind != kind || !bytes.Equal(o.Body, want) {
		t.Errorf("%s: kind %d, %s, fault %d; not kind %d, %s", what, o.Kind, cut(o.Body), f, kind, cut(want))
	}
}

// noObject: BadArg, and nothing beside it.
func noObject(t *testing.T, what string, o store.Object, f api.Fault) {
	t.Helper()
	if f != api.BadArg || o.Kind != 0 || o.Body != nil {
		t.Errorf("%s: kind %d, %s, fault %d; not fault 1 alone", what, o.Kind, cut(o.Body), f)
	}
}

func sameFile(a, b node.File) bool {
	return a.Size == b.Size && slices.Equal(a.Chunks, b.Chunks)
}

// getsFile: GetFile, and Links too, tell that of a body.
func getsFile(t *testing.T, what string, b []byte, want node.File) {
	t.Helper()
	x, f := node.GetFile(store.Object{Kind: 2, Body: b})
	if f != api.OK || !sameFile(x, want) {
		t.Errorf("%s: %s, fault %d; not %s", what, toldFile(x), f, toldFile(want))
	}
	links(t, what, 2, b, want.Chunks...)
}

// getsDir: GetDir, and Links too, tell these of a body.
func getsDir(t *testing.T, what string, b []byte, want ...node.Entry) {
	t.Helper()
	l, f := node.GetDir(store.Object{Kind: 3, Body: b})
	if f != api.OK {
		t.Errorf("%s: fault %d", what, f)
	}
	are(t, what, l, want...)
	var hs []api.Hash
	for _, e := range want {
		hs = append(hs, e.Hash)
	}
	links(t, what, 3, b, hs...)
}

// links: Links are just these.
func links(t *testing.T, what string, kind int, b []byte, want ...api.Hash) {
	t.Helper()
	l, f := node.Links(store.Object{Kind: kind, Body: b})
	if f != api.OK || !slices.Equal(l, want) {
		t.Errorf("%s: %d links, fault %d; not %d links", what, len(l), f, len(want))
	}
}

// noFile: GetFile has that fault, and nothing beside it; so has Links if the kind is a file's.
func noFile(t *testing.T, what string, kind int, b []byte, want api.Fault) {
	t.Helper()
	x, f := node.GetFile(store.Object{Kind: kind, Body: b})
	if f != want || x.Size != 0 || x.Chunks != nil {
		t.Errorf("%s: %s, fault %d; not fault %d alone", what, toldFile(x), f, want)
	}
	if kind == 2 {
		noLinks(t, what, kind, b, want)
	}
}

// noDir: GetDir has that fault, and nothing beside it; so has Links if the kind is a directory's.
func noDir(t *testing.T, what string, kind int, b []byte, want api.Fault) {
	t.Helper()
	l, f := node.GetDir(store.Object{Kind: kind, Body: b})
	if f != want || l != nil {
		t.Errorf("%s: %s, fault %d; not fault %d alone", what, told(l), f, want)
	}
	if kind == 3 {
		noLinks(t, what, kind, b, want)
	}
}

func noLinks(t *testing.T, what string, kind int, b []byte, want api.Fault) {
	t.Helper()
	l, f := node.Links(store.Object{Kind: kind, Body: b})
	if f != want || l != nil {
		t.Errorf("%s: Links: %d of them, fault %d; not fault %d alone", what, len(l), f, want)
	}
}

// are: the entries are just these; no entry may be nil or empty.
func are(t *testing.T, what string, got []node.Entry, want ...node.Entry) {
	t.Helper()
	if !slices.Equal(got, want) {
		t.Errorf("%s: %s, not %s", what, told(got), told(want))
	}
}

// told: names, a / behind those of directories, and the first bytes of hashes, of some entries.
func told(l []node.Entry) string {
	var b strings.Builder
	for i, e := range l {
		if i == 20 {
			b.WriteString(".. ")
			break
		}
		fmt.Fprintf(&b, "%q", e.Name)
		if e.Dir {
			b.WriteString("/")
		}
		fmt.Fprintf(&b, ":%x ", e.Hash[:4])
	}
	return fmt.Sprintf("%s(%d)", b.String(), len(l))
}

func toldFile(x node.File) string {
	return fmt.Sprintf("Size %d, %d chunks", x.Size, len(x.Chunks))
}

// cut: the first of some bytes, and how many there are.
func cut(b []byte) string {
	return fmt.Sprintf("% x (%d)", b[:min(len(b), 40)], len(b))
}
