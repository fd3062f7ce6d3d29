package tree_test

import (
	"slices"
	"strings"
	"testing"

	"hayloft/api"
	"hayloft/tree"
)

func rightTrees() map[string]tree.Tree {
	return map[string]tree.Tree{
		"nil":                     nil,
		"no item":                 {},
		"one file":                of(file("a", "")),
		"one directory":           of(dir("b")),
		"wood":                    wood(),
		"59 items":                many(59),
		"60 items":                many(60),
		"6 parts":                 chain("d", 6),
		"6 parts of 20":           chain(strings.Repeat("n", 20), 6),
		"a file of 2000 bytes":    of(file("b", strings.Repeat("x", 2000))),
		"60 files of 2000 bytes":  full(),
		"by bytes, not by parts":  of(dir("a"), file("a!", ""), file("a.", ""), file("a/b", ""), file("a0", "")),
		"by bytes, not by case":   of(file("B", ""), file("a", "")),
		"a directory no Data":     of(api.Item{Path: "a", Dir: true, Data: []byte{}}),
		"a file no Data":          of(api.Item{Path: "a"}, api.Item{Path: "b", Data: []byte{}}),
		"one that begins another": of(file("a", ""), file("aa", ""), file("aaa", "")),
	}
}

// full: as many files as can be, of as many bytes.
func full() tree.Tree {
	t := many(60)
	for i := range t {
		t[i].Data = []byte(strings.Repeat("x", 2000))
	}
	return t
}

func TestP1301Right(t *testing.T) {
	for what, l := range rightTrees() {
		if !tree.Right(l) {
			t.Errorf("%s: %s is not right", what, told(l))
		}
	}
	for what, l := range wrongTrees() {
		if tree.Right(l) {
			t.Errorf("%s: %s is right", what, told(l))
		}
	}
}

// Each path that is none, wherever it stands by its bytes.
func TestP1301RightOfPaths(t *testing.T) {
	for _, s := range goodParts() {
		for _, x := range []api.Item{file(s, "x"), dir(s)} {
			if !tree.Right(of(x)) {
				t.Errorf("%s is not right", told(of(x)))
			}
		}
	}
	for _, s := range badParts() {
		if s == "a/b" {
			continue
		}
		for _, x := range []api.Item{file(s, "x"), dir(s)} {
			l := of(dir("a"), x)
			slices.SortFunc(l, func(a, b api.Item) int { return strings.Compare(a.Path, b.Path) })
			if tree.Right(of(x)) || tree.Right(l) {
				t.Errorf("%s is right", told(l))
			}
		}
	}
}

// What is wrong is found first, last, and in the midst.
func TestP1301RightOfEachPlace(t *testing.T) {
	for i := range 60 {
		for what, spoil := range map[string]func(x *api.Item){
			"too large":     func(x *api.Item) { x.Data = make([]byte, 2001) },
			"Data":          func(x *api.Item) { x.Dir = true },
			"no path":       func(x *api.Item) { x.Path += "\x7f" },
			"no directory":  func(x *api.Item) { x.Path += "/a" },
			"not its place": func(x *api.Item) { x.Path = "e" + x.Path[1:] },
			"too far on":    func(x *api.Item) { x.Path = "g" + x.Path[1:] },
		} {
			l := many(60)
			spoil(&l[i])
			if (what != "not its place" || i > 0) && (what != "too far on" || i < 59) && tree.Right(l) {
				t.Errorf("%s at %d: right", what, i)
			}
		}
	}
}

func TestP1301Same(t *testing.T) {
	for what, a := range rightTrees() {
		for other, b := range rightTrees() {
			empty := len(a) == 0 && len(b) == 0
			if got := tree.Same(a, b); got != (what == other || empty) {
				t.Errorf("%s and %s: the same is %v", what, other, got)
			}
		}
	}
}

func TestP1301SameOfOneThingChanged(t *testing.T) {
	for i := range wood() {
		for what, change := range map[string]func(l tree.Tree) tree.Tree{
			"path":        func(l tree.Tree) tree.Tree { l[i].Path += "!"; return l },
			"kind":        func(l tree.Tree) tree.Tree { l[i].Dir = !l[i].Dir; return l },
			"more Data":   func(l tree.Tree) tree.Tree { l[i].Data = append(l[i].Data, 0); return l },
			"gone":        func(l tree.Tree) tree.Tree { return slices.Delete(l, i, i+1) },
			"twice":       func(l tree.Tree) tree.Tree { return slices.Insert(l, i, l[i]) },
			"another one": func(l tree.Tree) tree.Tree { return slices.Insert(l, i, file("other", "")) },
		} {
			l := change(wood())
			if tree.Same(wood(), l) || tree.Same(l, wood()) {
				t.Errorf("%s of %d: %s is the same", what, i, told(l))
			}
		}
		if l := wood(); len(l[i].Data) > 0 {
			l[i].Data[len(l[i].Data)-1]++
			if tree.Same(wood(), l) {
				t.Errorf("last byte of %d: the same", i)
			}
		}
	}
}

// Of lists that are no right trees too: in order, and of whatever items.
func TestP1301SameOfWrongTrees(t *testing.T) {
	for what, l := range wrongTrees() {
		if !tree.Same(l, slices.Clone(l)) {
			t.Errorf("%s: not the same as itself", what)
		}
		if tree.Same(l, nil) || tree.Same(wood(), l) {
			t.Errorf("%s: the same as another one", what)
		}
	}
	if tree.Same(of(file("a", ""), file("b", "")), of(file("b", ""), file("a", ""))) {
		t.Error("in another order: the same")
	}
}

func TestP1301SameOfNoData(t *testing.T) {
	a := of(dir("a"), api.Item{Path: "b"})
	b := of(api.Item{Path: "a", Dir: true, Data: []byte{}}, api.Item{Path: "b", Data: make([]byte, 0, 9)})
	if !tree.Same(a, b) || !tree.Same(b, a) || !tree.Same(nil, tree.Tree{}) || !tree.Same(tree.Tree{}, nil) {
		t.Error("nil and empty are not the same")
	}
}
