package tree_test

import (
	"slices"
	"strings"
	"testing"

	"hayloft/api"
	"hayloft/tree"
)

// left: wood without the items of these places.
func left(from, to int) tree.Tree {
	return slices.Delete(wood(), from, to)
}

func TestP1304RemoveOfOneItem(t *testing.T) {
	for i, x := range wood() {
		if x.Dir && x.Path != "a0" && x.Path != "e" {
			continue
		}
		for _, deep := range []bool{false, true} {
			l, f := tree.Remove(wood(), x.Path, deep)
			made(t, "Remove "+x.Path, l, f, left(i, i+1)...)
		}
	}
	for _, deep := range []bool{false, true} {
		l, f := tree.Remove(of(dir("a")), "a", deep)
		made(t, "Remove of all", l, f)
		l, f = tree.Remove(of(file("a", "x")), "a", deep)
		made(t, "Remove of all", l, f)
	}
}

func TestP1304RemoveOfADirectoryWithSomethingWithin(t *testing.T) {
	for p, want := range map[string]tree.Tree{
		"a":     of(append(of(wood()[1:4]...), wood()[9:]...)...),
		"a.b":   left(2, 4),
		"a/b":   left(4, 7),
		"a/b/c": left(5, 7),
	} {
		l, f := tree.Remove(wood(), p, false)
		fails(t, "Remove "+p, l, f, api.NotEmpty)
		l, f = tree.Remove(wood(), p, true)
		made(t, "Remove deep "+p, l, f, want...)
	}
	for i := 1; i <= 6; i++ {
		l, f := tree.Remove(chain("d", 6), deep("d", i), true)
		made(t, "Remove of a chain", l, f, chain("d", i-1)...)
		l, f = tree.Remove(chain("d", 6), deep("d", i), false)
		if i < 6 {
			fails(t, "Remove of a chain", l, f, api.NotEmpty)
		} else {
			made(t, "Remove of a chain's end", l, f, chain("d", 5)...)
		}
	}
}

// What begins alike, without a /, is not within.
func TestP1304RemoveOfWhatBeginsAlike(t *testing.T) {
	l := of(dir("a"), dir("a!"), file("a!/x", ""), dir("aa"), file("aa/x", ""), file("ab", ""))
	for _, deep := range []bool{false, true} {
		got, f := tree.Remove(l, "a", deep)
		made(t, "Remove", got, f, l[1:]...)
	}
	got, f := tree.Remove(l, "aa", true)
	made(t, "Remove", got, f, dir("a"), dir("a!"), file("a!/x", ""), file("ab", ""))
}

func TestP1304RemoveOfAllAtMaxItems(t *testing.T) {
	l := of(dir("f"))
	for _, x := range many(59) {
		l = append(l, file("f/"+x.Path, "x"))
	}
	got, f := tree.Remove(l, "f", false)
	fails(t, "Remove", got, f, api.NotEmpty)
	got, f = tree.Remove(l, "f", true)
	made(t, "Remove deep", got, f)
	got, f = tree.Remove(l, "f/f0000", true)
	made(t, "Remove of one", got, f, append(of(l[0]), l[2:]...)...)
}

func TestP1304Faults(t *testing.T) {
	for _, deeply := range []bool{false, true} {
		for _, p := range append(badParts(), "a/", "/a", "a//b", "a/b/", "a/.", "a/b c", "f/", deep("a", 7)) {
			if p == "a/b" {
				continue
			}
			l, f := tree.Remove(wood(), p, deeply)
			fails(t, "Remove of no path", l, f, api.BadPath)
			l, f = tree.Remove(nil, p, deeply)
			fails(t, "Remove of no path, of nothing", l, f, api.BadPath)
		}
		for _, p := range []string{"b", "a/c", "aa", "A", "a/b/c/e", "b/c", "f/a", "a/x/y/z", "a!/b", "a.", "a/b/c/d/e", strings.Repeat("n", 20), deep("a", 6)} {
			l, f := tree.Remove(wood(), p, deeply)
			fails(t, "Remove of what is not there", l, f, api.NotFound)
			l, f = tree.Remove(nil, p, deeply)
			fails(t, "Remove of nothing", l, f, api.NotFound)
		}
	}
}
