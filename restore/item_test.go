package restore_test

import (
	"strings"
	"testing"

	"hayloft/api"
	"hayloft/node"
)

func TestP1604Item(t *testing.T) {
	for what, at := range shapes(t) {
		o := empty(t)
		u := wood()
		h := root(t, o, u)
		o = at(o)
		for _, x := range u {
			item(t, what, o, h, x)
		}
	}
}

// noPaths: by what they are.
func noPaths() map[string]string {
	return map[string]string{
		"empty":              "",
		"a /":                "/",
		"a / ahead":          "/a",
		"a / behind":         "a/",
		"a / twice":          "a//b",
		".":                  ".",
		"..":                 "a/..",
		"a blank":            "a b",
		"a byte 0":           "a\x00",
		"a byte 7F":          "a/\x7f",
		"no ASCII":           "é",
		"a name of 21":       strings.Repeat("n", 21),
		"7 parts":            deep("d", 7),
		"very many parts":    deep("d", 70000),
		"wrong behind right": deep("d", 6) + "/",
	}
}

func TestP1604NoPath(t *testing.T) {
	o := empty(t)
	h := dirOf(t, o, isFile("a", small(t, o, "x")))
	notDir, bad := small(t, o, "y"), spoilt(t, o, 3, "\x03\x00\x00")
	for what, p := range noPaths() {
		noItem(t, what, o, h, p, api.BadPath)
		noItem(t, what+", no root", o, gone(1), p, api.BadPath)
		noItem(t, what+", the root a file", o, notDir, p, api.BadPath)
		noItem(t, what+", the root spoilt", o, bad, p, api.BadPath)
		for none, o := range nobody() {
			noItem(t, what+", "+none, o, h, p, api.Nil)
		}
	}
	goesDown(t, o.FS())
	noItem(t, "down", o, bad, "a//b", api.BadPath)
}

func TestP1604NoStore(t *testing.T) {
	for what, o := range nobody() {
		noItem(t, what, o, gone(1), "a", api.Nil)
		noItem(t, what, o, api.Hash{}, "a/b", api.Nil)
	}
}

func TestP1604Root(t *testing.T) {
	for _, p := range []string{"a", "a/b", deep("d", 6)} {
		o := empty(t)
		noItem(t, "zero", o, api.Hash{}, p, api.NotFound)
		noItem(t, "none", o, gone(1), p, api.NotFound)
		noItem(t, "spoilt", o, spoilt(t, o, 3, "\x03\x00\x00"), p, api.Corrupt)
		for what, x := range notDirs() {
			noItem(t, what, o, put(t, o, x), p, api.Corrupt)
		}
		packed := dirOf(t, o)
		flush(t, o)
		goesDown(t, o.FS())
		noItem(t, "down", o, packed, p, api.Down)
	}
}

func TestP1604NoEntry(t *testing.T) {
	o := empty(t)
	h := root(t, o, wood())
	for _, p := range []string{"0", "zz", "a.", "A", "a/a", "a/b/a", "a/b/c/a", "a/b/c/d0", "a.b/a", "e/e", "x/y", "x/y/z", "a/xx/y", deep("a", 6)} {
		noItem(t, "none of that name", o, h, p, api.NotFound)
	}
	noItem(t, "in the empty root", o, dirOf(t, o), "a", api.NotFound)
	noItem(t, "in the empty root, deep", o, dirOf(t, o), deep("a", 6), api.NotFound)
}

func TestP1604File(t *testing.T) {
	o := empty(t)
	h := root(t, o, wood())
	for _, p := range []string{"f/x", "f/x/y", "a!/b", "a/x/x", "a/x/x/x", "a/b/c/d/e", "a/b/c/d/e/f", "g/h/h", "a.b/c/d"} {
		noItem(t, "a file", o, h, p, api.NotDir)
	}
}

// The entry alone says what a file is: nothing of it is asked where there is one more part.
func TestP1604FileThatIsNone(t *testing.T) {
	o := empty(t)
	bad := spoilt(t, o, 2, "\x03\x00\x06\x01\x00\x00\x03\x00\x00")
	for what, e := range map[string]node.Entry{
		"not there":   isFile("a", gone(1)),
		"spoilt":      isFile("a", bad),
		"a directory": isFile("a", dirOf(t, o, isFile("b", small(t, o, "x")))),
	} {
		h := dirOf(t, o, e)
		noItem(t, what, o, h, "a/b", api.NotDir)
		noItem(t, what+", deep", o, h, "a/b/c/d/e/f", api.NotDir)
	}
}

// Each part of a path: what is got for it may be at fault.
func TestP1604EachPart(t *testing.T) {
	o := empty(t)
	bad := spoilt(t, o, 3, "\x03\x00\x00")
	faulty := map[string]struct {
		want api.Fault
		h    api.Hash
	}{
		"not there": {api.Missing, gone(1)},
		"the zero":  {api.Missing, api.Hash{}},
		"spoilt":    {api.Corrupt, bad},
		"a file":    {api.Corrupt, small(t, o, "x")},
		"a chunk":   {api.Corrupt, chunk(t, o, "x")},
		"kind 4":    {api.Corrupt, object(t, o, 4, "\x03\x00\x00")},
	}
	for what, c := range faulty {
		h := c.h
		for parts := 1; parts <= 5; parts++ {
			h = dirOf(t, o, isDir("d", h))
			noItem(t, what, o, h, deep("d", parts)+"/x", c.want)
			item(t, what+", told by its entry", o, h, dir(deep("d", parts)))
			if parts < 5 {
				noItem(t, what, o, h, deep("d", parts)+"/x/y", c.want)
			}
		}
	}
}

// What is ahead on the path is told ahead.
func TestP1604FirstFault(t *testing.T) {
	o := empty(t)
	bad := spoilt(t, o, 3, "\x03\x00\x00")
	h := dirOf(t, o, isDir("a", dirOf(t, o, isDir("b", gone(1)), isDir("c", bad), isFile("d", gone(2)))), isDir("e", gone(3)))
	noItem(t, "missing", o, h, "a/b/x", api.Missing)
	noItem(t, "spoilt", o, h, "a/c/x", api.Corrupt)
	noItem(t, "no entry ahead", o, h, "a/x/c", api.NotFound)
	noItem(t, "a file ahead", o, h, "a/d/x", api.NotDir)
	noItem(t, "a file missing", o, h, "a/d", api.Missing)
	noItem(t, "missing ahead", o, h, "e/a/b", api.Missing)
}

// Of a file: what is wrong with it, or its chunks.
func TestP1604Bytes(t *testing.T) {
	o := empty(t)
	x := chunk(t, o, "x")
	badFile, badChunk := spoilt(t, o, 2, "\x03\x00\x06\x01\x00\x00\x03\x00\x00"), spoilt(t, o, 1, "turned")
	for what, c := range map[string]struct {
		want api.Fault
		h    api.Hash
	}{
		"not there":       {api.Missing, gone(1)},
		"spoilt":          {api.Corrupt, badFile},
		"a directory":     {api.Corrupt, dirOf(t, o)},
		"a chunk":         {api.Corrupt, x},
		"a chunk missing": {api.Missing, fileOf(t, o, 1, gone(2))},
		"a chunk spoilt":  {api.Corrupt, fileOf(t, o, 6, badChunk)},
		"a chunk a file":  {api.Corrupt, fileOf(t, o, 1, small(t, o, "y"))},
		"another Size":    {api.Corrupt, fileOf(t, o, 2, x)},
		"missing, spoilt": {api.Missing, fileOf(t, o, 2, gone(2), badChunk)},
		"spoilt, missing": {api.Corrupt, fileOf(t, o, 2, badChunk, gone(2))},
	} {
		e := isFile("f", c.h)
		noItem(t, what, o, dirOf(t, o, e), "f", c.want)
		noItem(t, what+", deep", o, dirOf(t, o, isDir("d", dirOf(t, o, e))), "d/f", c.want)
		item(t, what+", its directory", o, dirOf(t, o, isDir("d", dirOf(t, o, e))), dir("d"))
	}
}

// What lies beside the path is not asked: be it missing, spoilt, too deep, or too much.
func TestP1604Beside(t *testing.T) {
	o := empty(t)
	bad := spoilt(t, o, 3, "\x03\x00\x00")
	x := small(t, o, "x")
	beside := func(l ...node.Entry) api.Hash {
		return dirOf(t, o, append(l, isFile("0", gone(1)), isDir("1", bad), isDir("z", gone(2)), isFile("y", bad))...)
	}
	h := beside(isDir("d", beside(isFile("f", x))))
	item(t, "missing and spoilt", o, h, file("d/f", "x"))
	item(t, "missing and spoilt", o, h, dir("d"))
	noItem(t, "missing and spoilt", o, h, "d/g", api.NotFound)
	noLeaves(t, "missing and spoilt", o, h, api.Missing)

	h = dirOf(t, o, append(wide(58, x), isDir("d", deepDir(t, o, isFile("f", x), 9)), isDir("w", dirOf(t, o, wide(60, x)...)))...)
	item(t, "too much, too deep", o, h, file("w/f59", "x"))
	item(t, "too much, too deep", o, h, dir(deep("d", 6)))
	noItem(t, "too much, too deep", o, h, deep("d", 7), api.BadPath)
	noLeaves(t, "too much, too deep", o, h, api.Corrupt)
}

func TestP1604Deep(t *testing.T) {
	o := empty(t)
	x, e := small(t, o, "x"), dirOf(t, o)
	name := strings.Repeat("n", 20)
	for n := range 6 {
		item(t, "a file", o, deepDir(t, o, isFile(name, x), n), file(strings.Repeat("d/", n)+name, "x"))
		item(t, "a directory", o, deepDir(t, o, isDir(name, e), n), dir(strings.Repeat("d/", n)+name))
	}
	noItem(t, "7 parts", o, deepDir(t, o, isFile(name, x), 6), strings.Repeat("d/", 6)+name, api.BadPath)
}

func TestP1604Down(t *testing.T) {
	o := empty(t)
	packed, packedDir := chunk(t, o, "packed"), dirOf(t, o, isFile("x", small(t, o, "x")))
	packedFile := small(t, o, "packed too")
	flush(t, o)
	h := dirOf(t, o, isDir("d", packedDir), isFile("f", packedFile), isFile("g", fileOf(t, o, 6, packed)), isFile("w", small(t, o, "waits")), isFile("z", gone(1)))
	goesDown(t, o.FS())
	item(t, "it waits", o, h, file("w", "waits"))
	item(t, "told by its entry", o, h, dir("d"))
	noItem(t, "a directory", o, h, "d/x", api.Down)
	noItem(t, "a file", o, h, "f", api.Down)
	noItem(t, "its chunk", o, h, "g", api.Down)
	noItem(t, "missing", o, h, "z", api.Missing)
	noItem(t, "no entry", o, h, "y", api.NotFound)
	noItem(t, "a file, one more part", o, h, "f/x", api.NotDir)
}

// A directory that stands in several places is the same in each.
func TestP1604ManyPlaces(t *testing.T) {
	o := empty(t)
	in := dirOf(t, o, isFile("f", small(t, o, "x")), isDir("g", dirOf(t, o)))
	two := dirOf(t, o, isDir("a", in), isDir("b", in))
	h := dirOf(t, o, isDir("a", two), isDir("b", two), isDir("c", in))
	for _, p := range []string{"a/a", "a/b", "b/a", "b/b", "c"} {
		item(t, "in several places", o, h, dir(p))
		item(t, "in several places", o, h, file(p+"/f", "x"))
		item(t, "in several places", o, h, dir(p+"/g"))
		noItem(t, "in several places", o, h, p+"/h", api.NotFound)
	}
}
