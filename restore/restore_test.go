package restore_test

import (
	"testing"

	"hayloft/api"
	"hayloft/node"
	"hayloft/restore"
	"hayloft/tree"
)

func TestP1603Restore(t *testing.T) {
	for what, at := range shapes(t) {
		o := empty(t)
		x, none, two := small(t, o, "x"), fileOf(t, o, 0), fileOf(t, o, 4, chunk(t, o, "abc"), chunk(t, o, "d"))
		in := dirOf(t, o, isFile("f", two), isDir("g", dirOf(t, o)))
		h := dirOf(t, o, isDir("a", in), isFile("a.b", none), isFile("c", x), isDir("d", in))
		o = at(o)
		restores(t, what, o, h, of(
			dir("a"), file("a.b", ""), file("a/f", "abcd"), dir("a/g"), file("c", "x"), dir("d"), file("d/f", "abcd"), dir("d/g")))
		restores(t, what+", a directory", o, in, of(file("f", "abcd"), dir("g")))
	}
}

func TestP1603EmptyRoot(t *testing.T) {
	o := empty(t)
	h := dirOf(t, o)
	restores(t, "empty", o, h, nil)
	if text(h) != emptyRoot {
		t.Errorf("%s", text(h))
	}
}

func TestP1603NoStore(t *testing.T) {
	for what, o := range nobody() {
		noTree(t, what, o, api.Hash{}, api.Nil)
		noTree(t, what, o, gone(1), api.Nil)
	}
}

func TestP1603NotThere(t *testing.T) {
	o := empty(t)
	noTree(t, "zero", o, api.Hash{}, api.NotFound)
	noTree(t, "none", o, gone(1), api.NotFound)
	noTree(t, "a file", o, small(t, o, "x"), api.Corrupt)
	noTree(t, "spoilt", o, spoilt(t, o, 3, "\x03\x00\x00"), api.Corrupt)
}

// Leaves' fault comes first, even where it stands behind a file that is at fault.
func TestP1603LeavesFirst(t *testing.T) {
	o := empty(t)
	missing := fileOf(t, o, 1, gone(1))
	corrupt := fileOf(t, o, 2, chunk(t, o, "x"))
	spoilt := fileOf(t, o, 6, spoilt(t, o, 1, "turned"))
	for what, c := range map[string]struct {
		want api.Fault
		l    []node.Entry
	}{
		"a chunk missing, a dir that is none":  {api.Corrupt, []node.Entry{isFile("a", missing), isDir("b", missing)}},
		"a chunk missing, a file that is none": {api.Corrupt, []node.Entry{isFile("a", missing), isFile("b", dirOf(t, o))}},
		"another Size, a file missing":         {api.Missing, []node.Entry{isFile("a", corrupt), isFile("b", gone(2))}},
		"a chunk spoilt, a directory missing":  {api.Missing, []node.Entry{isFile("a", spoilt), isDir("b", gone(2))}},
		"in a directory, a file missing":       {api.Missing, []node.Entry{isDir("a", dirOf(t, o, isFile("a", corrupt))), isFile("b", gone(2))}},
		"too many, and a chunk missing":        {api.Corrupt, append(wide(59, missing), isDir("z", dirOf(t, o, isFile("a", missing))))},
	} {
		noTree(t, what, o, dirOf(t, o, c.l...), c.want)
	}
	noTree(t, "a chunk missing, too deep", o, dirOf(t, o, isFile("a", missing), isDir("b", deepDir(t, o, isFile("f", missing), 6))), api.Corrupt)
}

// Files are got by paths, which is not the order of the entries.
func TestP1603FirstFault(t *testing.T) {
	o := empty(t)
	x := small(t, o, "x")
	missing := fileOf(t, o, 1, gone(1))
	corrupt := fileOf(t, o, 2, chunk(t, o, "x"))
	spoilt := fileOf(t, o, 6, spoilt(t, o, 1, "turned"))
	in := func(h api.Hash) api.Hash { return dirOf(t, o, isFile("x", h)) }
	for what, c := range map[string]struct {
		want api.Fault
		l    []node.Entry
	}{
		"a chunk missing":                      {api.Missing, []node.Entry{isFile("a", missing)}},
		"another Size":                         {api.Corrupt, []node.Entry{isFile("a", corrupt)}},
		"a chunk spoilt":                       {api.Corrupt, []node.Entry{isFile("a", spoilt)}},
		"missing, spoilt":                      {api.Missing, []node.Entry{isFile("a", missing), isFile("b", spoilt)}},
		"spoilt, missing":                      {api.Corrupt, []node.Entry{isFile("a", spoilt), isFile("b", missing)}},
		"another Size, missing":                {api.Corrupt, []node.Entry{isFile("a", corrupt), isFile("b", missing)}},
		"fine, missing, spoilt":                {api.Missing, []node.Entry{isFile("a", x), isFile("b", missing), isFile("c", spoilt)}},
		"missing in a, spoilt behind":          {api.Missing, []node.Entry{isDir("a", in(missing)), isFile("b", spoilt)}},
		"missing in a, spoilt a.b, by paths":   {api.Corrupt, []node.Entry{isDir("a", in(missing)), isFile("a.b", spoilt)}},
		"spoilt in a, missing a!, by paths":    {api.Missing, []node.Entry{isDir("a", in(spoilt)), isFile("a!", missing)}},
		"spoilt in a, missing in a-, by paths": {api.Missing, []node.Entry{isDir("a", in(spoilt)), isDir("a-", in(missing))}},
		"spoilt in a, missing a0":              {api.Corrupt, []node.Entry{isDir("a", in(spoilt)), isFile("a0", missing)}},
	} {
		h := dirOf(t, o, c.l...)
		noTree(t, what, o, h, c.want)
		if _, f := restore.Leaves(o, h); f != api.OK {
			t.Errorf("%s: Leaves: fault %d", what, f)
		}
	}
}

func TestP1603Down(t *testing.T) {
	o := empty(t)
	packed := chunk(t, o, "packed")
	old := root(t, o, of(file("a", "x")))
	flush(t, o)
	x := small(t, o, "waits")
	down, missing := fileOf(t, o, 6, packed), fileOf(t, o, 6, gone(1))
	all := dirOf(t, o, isFile("a", x), isDir("b", dirOf(t, o, isFile("c", x))))
	first := dirOf(t, o, isFile("a", down), isFile("b", missing))
	second := dirOf(t, o, isFile("a", missing), isFile("b", down))
	leavesFirst := dirOf(t, o, isFile("a", down), isFile("b", gone(2)))
	goesDown(t, o.FS())
	restores(t, "all waits", o, all, of(file("a", "waits"), dir("b"), file("b/c", "waits")))
	noTree(t, "the root", o, old, api.Down)
	noTree(t, "down, missing", o, first, api.Down)
	noTree(t, "missing, down", o, second, api.Missing)
	noTree(t, "a file missing", o, leavesFirst, api.Missing)
}

// The tree is one that can be, with as much in it as there may be.
func TestP1603TheMost(t *testing.T) {
	o := empty(t)
	most := fileOf(t, o, 2000, chunk(t, o, filled(3, 1999)), chunk(t, o, "x"))
	h := dirOf(t, o, wide(60, most)...)
	var want tree.Tree
	for _, e := range wide(60, most) {
		want = append(want, file(e.Name, filled(3, 1999)+"x"))
	}
	restores(t, "60 full files", o, h, want)
	if !tree.Right(want) || tree.Bytes(want) != 120000 {
		t.Error("no right tree")
	}
}
