package tree_test

import (
	"fmt"
	"strings"
	"testing"

	"hayloft/api"
	"hayloft/tree"
)

// A tree that is not right comes ahead of all else, whether what is asked could be done or not.
func TestWrongTreesComeFirst(t *testing.T) {
	paths := []string{"", "/", "a//b", "a", "b", "z", "a/b", "a/b/c", "f0000", "not/there", deep("d", 6), deep("d", 7), strings.Repeat("n", 21)}
	for what, l := range wrongTrees() {
		for _, p := range paths {
			got, f := tree.Mkdir(l, p)
			fails(t, "P1303: "+what+": Mkdir "+p, got, f, api.BadArg)
			for _, n := range []int{0, 1, 2000, 2001} {
				got, f = tree.Write(l, p, make([]byte, n))
				fails(t, "P1303: "+what+": Write "+p, got, f, api.BadArg)
			}
			for _, deeply := range []bool{false, true} {
				got, f = tree.Remove(l, p, deeply)
				fails(t, "P1304: "+what+": Remove "+p, got, f, api.BadArg)
			}
			for _, to := range append(paths, p+"/x") {
				got, f = tree.Rename(l, p, to)
				fails(t, "P1305: "+what+": Rename "+p+" "+to, got, f, api.BadArg)
			}
		}
	}
}

// Where two of Mkdir's or of Write's faults apply.
func TestP1303WhichFaultComesFirst(t *testing.T) {
	packed := append(wood(), many(47)...)[:60]
	packed[12].Path = "f" // ahead of f0000
	if !tree.Right(packed) {
		t.Fatal(told(packed))
	}
	for _, c := range []struct {
		p             string
		size          int
		mkdir, writes api.Fault
	}{
		{"b/ ", 2001, api.BadPath, api.BadPath},
		{"f/b ", 2001, api.BadPath, api.BadPath},
		{"", 2001, api.BadPath, api.BadPath},
		{deep("a", 7), 2001, api.BadPath, api.BadPath},
		{"b/c", 2001, api.NotFound, api.NotFound},
		{"f/a/b", 2001, api.NotFound, api.NotFound}, // what would hold it is not there: that a file is farther up does not matter
		{"f/a", 2001, api.NotDir, api.NotDir},
		{"f/a", 1, api.NotDir, api.NotDir},
		{"a", 2001, api.Exists, api.IsDir},
		{"a/b", 0, api.Exists, api.IsDir},
		{"f", 2001, api.Exists, api.TooLarge},
		{"b", 2001, api.TooLarge, api.TooLarge},
		{"b", 0, api.TooLarge, api.TooLarge},
		{"e/e", 2000, api.TooLarge, api.TooLarge},
	} {
		got, f := tree.Mkdir(packed, c.p)
		fails(t, "Mkdir "+c.p, got, f, c.mkdir)
		got, f = tree.Write(packed, c.p, make([]byte, c.size))
		fails(t, fmt.Sprint("Write ", c.p, " ", c.size), got, f, c.writes)
	}
}

func TestP1305WhichFaultComesFirst(t *testing.T) {
	w := wood()
	stays(t, w, "not/there", "a ", api.BadPath)
	stays(t, w, "a ", "a", api.BadPath)
	stays(t, w, "not/there", "f/a", api.NotFound)
	stays(t, w, "not/there", "f", api.NotFound)
	stays(t, w, "b", "b/c", api.NotFound)
	stays(t, w, "a", "a/c/d", api.NotFound)
	stays(t, w, "a", "a/x/d", api.NotDir)
	stays(t, w, "f", "f/a", api.NotDir)
	stays(t, w, "f", "f/a/b", api.NotFound)
	stays(t, w, "a", "a/b/c", api.Exists)
	stays(t, w, "a/b/c", "a", api.Exists)

	l := append(chain("d", 5), dir("e"), dir("e/e"), file("e/e/e", ""))
	stays(t, l, "d", deep("d", 5), api.Exists)          // within itself, and too deep
	stays(t, l, "d", deep("d", 5)+"/z", api.BadArg)     // within itself, and too deep
	stays(t, l, "e", deep("d", 5), api.Exists)          // too deep
	stays(t, l, "e", deep("d", 4)+"/z/z", api.NotFound) // too deep
	stays(t, l, "e", "e/e/e/z", api.NotDir)             // within itself
	stays(t, l, "e", deep("d", 5)+"/z", api.BadPath)
	stays(t, l, "e/e", deep("d", 5)+"/z", api.BadPath)
	renames(t, l, "e/e/e", deep("d", 5)+"/z", append(chain("d", 5), file(deep("d", 5)+"/z", ""), dir("e"), dir("e/e"))...)
}
