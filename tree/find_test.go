package tree_test

import (
	"slices"
	"strings"
	"testing"

	"hayloft/api"
	"hayloft/tree"
)

// finds: just that item.
func finds(t *testing.T, l tree.Tree, want api.Item) {
	t.Helper()
	x, ok := tree.Find(l, want.Path)
	if !ok || !same(of(x), of(want)) {
		t.Errorf("%q in %s: %s, %v", want.Path, told(l), told(of(x)), ok)
	}
}

// lacks: there is no such item, and none is told.
func lacks(t *testing.T, l tree.Tree, p string) {
	t.Helper()
	x, ok := tree.Find(l, p)
	if ok || x.Path != "" || x.Dir || len(x.Data) != 0 {
		t.Errorf("%.40q in %s: %s, %v", p, told(l), told(of(x)), ok)
	}
}

func TestP1302Find(t *testing.T) {
	for _, l := range []tree.Tree{wood(), many(1), many(2), many(3), many(59), many(60), chain("d", 6), full()} {
		for _, x := range l {
			finds(t, l, x)
		}
	}
}

func TestP1302FindOfWhatIsNotThere(t *testing.T) {
	for _, p := range []string{
		"", "/", ".", "..", "a/", "/a", "a//b", "a/b/", "A", "a/c", "a/b/c/d/e", "a/b/c/", "b", "a.", "a.b/", "a.b/d", "e/a", "f/a", "a!/b",
		"a1", "z", "!", "~", "aa", "a/b/x", deep("a", 6), deep("a", 7), strings.Repeat("a", 21), "a\x00", "f\x00", strings.Repeat("/", 1<<16),
	} {
		lacks(t, wood(), p)
		lacks(t, nil, p)
		lacks(t, tree.Tree{}, p)
	}
	for i := range 60 {
		l := many(60)
		p := l[i].Path
		lacks(t, slices.Delete(l, i, i+1), p)
	}
}

// Find and Under have no fault for a tree that is not right: what is there is told.
func TestP1302FindInWrongTrees(t *testing.T) {
	for _, l := range wrongTrees() {
		seen := map[string]bool{}
		for _, x := range l {
			if !seen[x.Path] && tree.Path(x.Path) {
				finds(t, l, x) // of one that comes twice, the first
			}
			seen[x.Path] = true
		}
		lacks(t, l, "not/there")
		lacks(t, l, "z")
	}
	l := many(60)
	slices.Reverse(l)
	for _, x := range l {
		finds(t, l, x)
	}
	finds(t, of(file("c", "1"), file("a", "2"), file("b", "3"), file("a", "4")), file("a", "2"))
}

func TestP1302UnderOfDirectories(t *testing.T) {
	w := wood()
	are(t, "the root", tree.Under(w, ""), w...)
	are(t, "a", tree.Under(w, "a"), dir("a"), dir("a/b"), dir("a/b/c"), file("a/b/c/d", "deep"), file("a/b0", "beside a/b"), file("a/x", "x"))
	are(t, "a/b", tree.Under(w, "a/b"), dir("a/b"), dir("a/b/c"), file("a/b/c/d", "deep"))
	are(t, "a/b/c", tree.Under(w, "a/b/c"), dir("a/b/c"), file("a/b/c/d", "deep"))
	are(t, "a.b", tree.Under(w, "a.b"), dir("a.b"), file("a.b/c", ""))
	are(t, "a0", tree.Under(w, "a0"), dir("a0"))
	are(t, "e", tree.Under(w, "e"), dir("e"))
	for i := 1; i <= 6; i++ {
		are(t, "chain", tree.Under(chain("d", 6), deep("d", i)), chain("d", 6)[i-1:]...)
	}
}

func TestP1302UnderOfFiles(t *testing.T) {
	for _, x := range wood() {
		if !x.Dir {
			are(t, x.Path, tree.Under(wood(), x.Path), x)
		}
	}
	for _, x := range full() {
		are(t, x.Path, tree.Under(full(), x.Path), x)
	}
}

func TestP1302UnderOfWhatIsNotThere(t *testing.T) {
	for _, p := range []string{
		"b", "a/", "/", "/a", "a//b", "a/b/", "a/b/c/d/e", ".", "..", "a.", "aa", "a/bb", "A", "f/", "f1", "e/a", "a/b/c/", "a1", "\x00", "a/b/c/d/",
		deep("d", 7), strings.Repeat("/", 1<<16), " ",
	} {
		are(t, p, tree.Under(wood(), p))
		are(t, p, tree.Under(nil, p))
	}
	are(t, "the root of nothing", tree.Under(nil, ""))
	are(t, "the root of nothing", tree.Under(tree.Tree{}, ""))
	are(t, "7 parts", tree.Under(chain("d", 6), deep("d", 7)))
}

// A path that begins another one, without a /, has nothing of it within.
func TestP1302UnderOfWhatBeginsAlike(t *testing.T) {
	l := of(dir("a"), dir("a!"), file("a!/x", ""), dir("aa"), file("aa/x", ""), file("ab", ""))
	are(t, "a", tree.Under(l, "a"), dir("a"))
	are(t, "aa", tree.Under(l, "aa"), dir("aa"), file("aa/x", ""))
	are(t, "a!", tree.Under(l, "a!"), dir("a!"), file("a!/x", ""))
	are(t, "aa/", tree.Under(l, "aa/"))
	are(t, "aa/x", tree.Under(l, "aa/x"), file("aa/x", ""))
}

func TestP1302UnderInWrongTrees(t *testing.T) {
	for what, l := range wrongTrees() {
		are(t, what, tree.Under(l, ""), l...)
	}
	l := of(file("b/c", "1"), file("a", "2"), dir("b"), file("b!", "3"), file("b/a", "4"), file("b", "5"))
	are(t, "out of order", tree.Under(l, "b"), file("b/c", "1"), dir("b"), file("b/a", "4"), file("b", "5"))
	are(t, "of a file", tree.Under(of(file("a", ""), file("a/b", "x")), "a"), file("a", ""), file("a/b", "x"))
}

func TestP1302Bytes(t *testing.T) {
	for _, c := range []struct {
		l    tree.Tree
		want int
	}{
		{nil, 0},
		{tree.Tree{}, 0},
		{of(dir("a")), 0},
		{of(file("a", "")), 0},
		{of(file("a", "x")), 1},
		{wood(), 36},
		{many(60), 60},
		{full(), 120000},
		{chain("d", 6), 0},
		{many(300), 300},
		{of(file("a", "12"), file("a", "345")), 5},
		{of(file("b", "1"), file("a", "23"), file("", "4")), 4},
		{of(api.Item{Path: "a", Dir: true, Data: []byte("123")}), 3}, // of all Data
		{of(file("a", strings.Repeat("x", 2001))), 2001},
	} {
		if got := tree.Bytes(c.l); got != c.want {
			t.Errorf("%s: %d bytes, not %d", told(c.l), got, c.want)
		}
	}
}

func TestP1302Example1(t *testing.T) {
	l, f := tree.Mkdir(nil, "a")
	made(t, "Mkdir", l, f, dir("a"))
	l, f = tree.Write(l, "a/b", []byte("x"))
	made(t, "Write", l, f, dir("a"), file("a/b", "x"))
	are(t, "Under", tree.Under(l, "a"), dir("a"), file("a/b", "x"))
}
