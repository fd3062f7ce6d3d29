package tree_test

import (
	"bytes"
	"fmt"
	"slices"
	"strings"
	"testing"

	"hayloft/api"
	"hayloft/tree"
)

func dir(p string) api.Item {
	return api.Item{Path: p, Dir: true}
}

func file(p, data string) api.Item {
	return api.Item{Path: p, Data: []byte(data)}
}

// of: a tree of these items, as they come.
func of(l ...api.Item) tree.Tree {
	return slices.Clone(l)
}

// wood: a tree with files and directories, empty ones too, whose order by bytes is not the one
// by parts: ! and . are below the /.
func wood() tree.Tree {
	return of(
		dir("a"),
		file("a!", "not in a"),
		dir("a.b"),
		file("a.b/c", ""),
		dir("a/b"),
		dir("a/b/c"),
		file("a/b/c/d", "deep"),
		file("a/b0", "beside a/b"),
		file("a/x", "x"),
		dir("a0"),
		file("ab", "behind a"),
		dir("e"),
		file("f", "12345"),
	)
}

// many: a right tree of n files.
func many(n int) tree.Tree {
	var t tree.Tree
	for i := range n {
		t = append(t, file(fmt.Sprintf("f%04d", i), "x"))
	}
	return t
}

// deep: a path of n parts, each of them p.
func deep(p string, n int) string {
	return strings.TrimSuffix(strings.Repeat(p+"/", n), "/")
}

// chain: the directories of deep(p, n), and they alone: a right tree, if n is not too many.
func chain(p string, n int) tree.Tree {
	var t tree.Tree
	for i := 1; i <= n; i++ {
		t = append(t, dir(deep(p, i)))
	}
	return t
}

// wrongTrees: each of them breaks one word of what a right tree is.
func wrongTrees() map[string]tree.Tree {
	return map[string]tree.Tree{
		"61 items":                     many(61),
		"300 items":                    many(300),
		"no path":                      of(file("", "")),
		"no path, a directory":         of(dir("")),
		"a / ahead":                    of(file("/a", "")),
		"a / behind":                   of(dir("a"), file("a/", "")),
		"a / twice":                    of(dir("a"), file("a//b", "")),
		"a part .":                     of(dir("a"), file("a/.", "")),
		"a part ..":                    of(file("..", "")),
		"a blank":                      of(file("a b", "")),
		"a name of 21":                 of(file(strings.Repeat("n", 21), "")),
		"7 parts":                      chain("d", 7),
		"falling":                      of(file("b", ""), file("a", "")),
		"falling at the end":           of(file("a", ""), file("c", ""), file("b", "")),
		"a path twice":                 of(file("a", ""), file("a", "")),
		"a file and a directory":       of(file("a", ""), dir("a")),
		"a directory twice":            of(dir("a"), dir("a"), file("a/b", "")),
		"by parts, not by bytes":       of(dir("a"), file("a/b", ""), file("a!", "")),
		"a directory behind its file":  of(file("a/b", ""), dir("a")),
		"a directory not there":        of(file("a/b", "")),
		"a directory far up not there": of(dir("a/b"), file("a/b/c", "")),
		"only one far up there":        of(dir("a"), file("a/b/c", "")),
		"only one beside it there":     of(dir("a"), dir("ab"), file("b/c", "")),
		"a directory that is a file":   of(file("a", ""), file("a/b", "")),
		"a directory within a file":    of(file("a", ""), dir("a/b")),
		"a directory with Data":        of(dir("a"), api.Item{Path: "b", Dir: true, Data: []byte{0}}),
		"a file of 2001 bytes":         of(file("a", ""), file("b", strings.Repeat("x", 2001))),
	}
}

// same: whether both have just the same items; no Data may be nil or empty.
func same(a, b tree.Tree) bool {
	return slices.EqualFunc(a, b, func(x, y api.Item) bool {
		return x.Path == y.Path && x.Dir == y.Dir && bytes.Equal(x.Data, y.Data)
	})
}

// are: the items are just these.
func are(t *testing.T, what string, got tree.Tree, want ...api.Item) {
	t.Helper()
	if !same(got, want) {
		t.Errorf("%s: %s, not %s", what, told(got), told(want))
	}
}

// made: no fault, and just these items.
func made(t *testing.T, what string, got tree.Tree, f api.Fault, want ...api.Item) {
	t.Helper()
	if f != api.OK {
		t.Errorf("%s: fault %d", what, f)
	}
	are(t, what, got, want...)
}

// fails: with that fault, and no tree beside it.
func fails(t *testing.T, what string, got tree.Tree, f, want api.Fault) {
	t.Helper()
	if f != want {
		t.Errorf("%s: fault %d, not %d", what, f, want)
	}
	if len(got) != 0 {
		t.Errorf("%s: a fault, and %s", what, told(got))
	}
}

// told: paths, a / behind those of directories, and Data, some bytes of them.
func told(l tree.Tree) string {
	var b strings.Builder
	for i, x := range l {
		if i == 70 {
			b.WriteString(".. ")
			break
		}
		fmt.Fprintf(&b, "%q", x.Path)
		if x.Dir {
			b.WriteString("/")
		}
		if len(x.Data) > 0 {
			fmt.Fprintf(&b, ":%.12q", x.Data)
		}
		b.WriteString(" ")
	}
	return fmt.Sprintf("%s(%d)", b.String(), len(l))
}
