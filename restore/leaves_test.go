package restore_test

import (
	"fmt"
	"strings"
	"testing"

	"hayloft/api"
	"hayloft/node"
	"hayloft/restore"
	"hayloft/store"
)

// emptyRoot: the name of the empty directory, reckoned outside the program.
const emptyRoot = "355ebec2cf87301230fa2d98306efb0cee60ac86032de39d66e3599d73d6ff96"

func TestP1601EmptyRoot(t *testing.T) {
	for what, at := range shapes(t) {
		o := empty(t)
		h := root(t, o, nil)
		if text(h) != emptyRoot {
			t.Errorf("%s: %s", what, text(h))
		}
		leaves(t, what, at(o), h)
	}
}

func TestP1601Leaves(t *testing.T) {
	for what, at := range shapes(t) {
		o := empty(t)
		x, y := small(t, o, "x"), fileOf(t, o, 0)
		in := dirOf(t, o, isFile("f", y), isFile("g", x))
		up := dirOf(t, o, isDir("in", in), isFile("x", x))
		h := dirOf(t, o, isDir("d", up), isFile("e", x), isFile("z", y))
		leaves(t, what, at(o), h,
			leafDir("d", up), leafDir("d/in", in), leaf("d/in/f", y, 0), leaf("d/in/g", x, 1), leaf("d/x", x, 1), leaf("e", x, 1), leaf("z", y, 0))
	}
}

// By paths, byte by byte: ! and . are below the /, 0 above it.
func TestP1601Order(t *testing.T) {
	o := empty(t)
	x := small(t, o, "x")
	in := dirOf(t, o, isFile("x", x))
	two := dirOf(t, o, isDir("a", in), isFile("a!", x), isDir("a.b", in), isFile("a0", x))
	h := dirOf(t, o, isDir("a", two), isFile("a!", x), isDir("a.b", in), isFile("a0", x), isDir("b", in), isFile("b-", x))
	leaves(t, "beside a", o, h,
		leafDir("a", two), leaf("a!", x, 1), leafDir("a.b", in), leaf("a.b/x", x, 1),
		leafDir("a/a", in), leaf("a/a!", x, 1), leafDir("a/a.b", in), leaf("a/a.b/x", x, 1), leaf("a/a/x", x, 1), leaf("a/a0", x, 1),
		leaf("a0", x, 1), leafDir("b", in), leaf("b-", x, 1), leaf("b/x", x, 1))
}

// A file's Size is what the file says; its chunks are not asked.
func TestP1601ChunksAreNotAsked(t *testing.T) {
	o := empty(t)
	a := fileOf(t, o, 7, gone(1))
	b := fileOf(t, o, 2000, gone(2), spoilt(t, o, 1, "turned"))
	c := fileOf(t, o, 5, dirOf(t, o))
	h := dirOf(t, o, isFile("a", a), isFile("b", b), isFile("c", c))
	leaves(t, "chunks that are none", o, h, leaf("a", a, 7), leaf("b", b, 2000), leaf("c", c, 5))
}

func TestP1601NoStore(t *testing.T) {
	for what, o := range nobody() {
		noLeaves(t, what, o, api.Hash{}, api.Nil)
		noLeaves(t, what, o, gone(1), api.Nil)
	}
}

func TestP1601RootNotThere(t *testing.T) {
	for what, at := range shapes(t) {
		o := empty(t)
		x := small(t, o, "x")
		dirOf(t, o, isFile("a", x), isDir("b", gone(2)))
		o = at(o)
		noLeaves(t, what+", zero", o, api.Hash{}, api.NotFound)
		noLeaves(t, what+", none", o, gone(1), api.NotFound)
		noLeaves(t, what+", just named", o, gone(2), api.NotFound)
	}
}

// notDirs: objects that are no directories, by what they are.
func notDirs() map[string]store.Object {
	m := map[string]store.Object{
		"a chunk":               {Kind: 1, Body: []byte("x")},
		"a chunk of a form":     {Kind: 1, Body: []byte{3, 0, 0}},
		"an empty chunk":        {Kind: 1},
		"a file":                {Kind: 2, Body: []byte{3, 0, 6, 1, 0, 0, 3, 0, 0}},
		"a file of a directory": {Kind: 2, Body: []byte{3, 0, 0}},
		"no byte":               {Kind: 3},
		"no form":               {Kind: 3, Body: []byte{9}},
		"a number":              {Kind: 3, Body: []byte{1, 0, 0}},
		"a byte behind":         {Kind: 3, Body: []byte{3, 0, 0, 0}},
		"an entry of nothing":   {Kind: 3, Body: []byte{3, 0, 3, 3, 0, 0}},
		"a file's form":         {Kind: 3, Body: []byte{3, 0, 6, 1, 0, 0, 3, 0, 0}},
	}
	for kind := 4; kind <= 9; kind++ {
		m[fmt.Sprint("kind ", kind)] = store.Object{Kind: kind, Body: []byte{3, 0, 0}}
	}
	return m
}

// notFiles: objects that are no files, by what they are.
func notFiles() map[string]store.Object {
	form := []byte{3, 0, 6, 1, 0, 0, 3, 0, 0}
	m := map[string]store.Object{
		"a chunk":             {Kind: 1, Body: []byte("x")},
		"a chunk of a form":   {Kind: 1, Body: form},
		"an empty chunk":      {Kind: 1},
		"a directory":         {Kind: 3, Body: []byte{3, 0, 0}},
		"a directory's form":  {Kind: 2, Body: []byte{3, 0, 0}},
		"no byte":             {Kind: 2},
		"no form":             {Kind: 2, Body: []byte{9}},
		"a byte behind":       {Kind: 2, Body: append(form, 0)},
		"a Size, and nothing": {Kind: 2, Body: []byte{3, 0, 3, 1, 0, 0}},
		"bytes of no chunk":   {Kind: 2, Body: []byte{3, 0, 7, 1, 0, 1, 1, 3, 0, 0}},
		"more than MaxFile":   {Kind: 2, Body: bigFile()},
	}
	for kind := 4; kind <= 9; kind++ {
		m[fmt.Sprint("kind ", kind)] = store.Object{Kind: kind, Body: form}
	}
	return m
}

// bigFile: the body of a file of 2001 bytes and one chunk.
func bigFile() []byte {
	h := gone(1)
	return append([]byte{3, 0, 43, 1, 0, 2, 2001 >> 8, 2001 & 255, 3, 0, 35, 2, 0, 32}, h[:]...)
}

func TestP1601RootOfAnotherKind(t *testing.T) {
	for what, x := range notDirs() {
		for where, at := range shapes(t) {
			o := empty(t)
			h := put(t, o, x)
			noLeaves(t, what+", "+where, at(o), h, api.Corrupt)
		}
	}
}

func TestP1601EntryOfAnotherKind(t *testing.T) {
	for what, x := range notDirs() {
		for where, at := range shapes(t) {
			o := empty(t)
			h := put(t, o, x)
			one := dirOf(t, o, isDir("a", h))
			two := dirOf(t, o, isDir("b", one))
			o = at(o)
			noLeaves(t, what+" as a directory, "+where, o, one, api.Corrupt)
			noLeaves(t, what+" as a directory, deep, "+where, o, two, api.Corrupt)
		}
	}
	for what, x := range notFiles() {
		for where, at := range shapes(t) {
			o := empty(t)
			h := put(t, o, x)
			one := dirOf(t, o, isFile("a", h))
			two := dirOf(t, o, isDir("b", one))
			o = at(o)
			noLeaves(t, what+" as a file, "+where, o, one, api.Corrupt)
			noLeaves(t, what+" as a file, deep, "+where, o, two, api.Corrupt)
		}
	}
}

func TestP1601EntryNotThere(t *testing.T) {
	o := empty(t)
	x := small(t, o, "x")
	for what, l := range map[string][]node.Entry{
		"a file":              {isFile("a", gone(1))},
		"a directory":         {isDir("a", gone(1))},
		"the zero hash":       {isFile("a", api.Hash{})},
		"behind what is":      {isFile("a", x), isFile("b", gone(1))},
		"ahead of what is":    {isDir("a", gone(1)), isFile("b", x)},
		"in a directory":      {isDir("a", dirOf(t, o, isFile("b", gone(1))))},
		"in one behind a dir": {isDir("a", dirOf(t, o)), isDir("b", dirOf(t, o, isDir("c", gone(1))))},
	} {
		noLeaves(t, what, o, dirOf(t, o, l...), api.Missing)
	}
}

func TestP1601Spoilt(t *testing.T) {
	o := empty(t)
	x := small(t, o, "x")
	file := spoilt(t, o, 2, "\x03\x00\x06\x01\x00\x00\x03\x00\x00")
	dir := spoilt(t, o, 3, "\x03\x00\x00")
	noLeaves(t, "the root", o, dir, api.Corrupt)
	for what, l := range map[string][]node.Entry{
		"a file":         {isFile("a", file)},
		"a directory":    {isDir("a", dir)},
		"behind what is": {isFile("a", x), isFile("b", file)},
		"in a directory": {isDir("a", dirOf(t, o, isFile("x", x), isDir("y", dir)))},
	} {
		noLeaves(t, what, o, dirOf(t, o, l...), api.Corrupt)
	}
}

// Objects are got in order, each directory's at once: the first fault is told.
func TestP1601FirstFault(t *testing.T) {
	o := empty(t)
	x := small(t, o, "x")
	bad := spoilt(t, o, 2, "\x03\x00\x06\x01\x00\x00\x03\x00\x00")
	badDir := spoilt(t, o, 3, "\x03\x00\x00")
	none := gone(1)
	missing, corrupt := dirOf(t, o, isFile("m", none)), dirOf(t, o, isFile("c", bad))
	for what, c := range map[string]struct {
		want api.Fault
		l    []node.Entry
	}{
		"missing, spoilt":             {api.Missing, []node.Entry{isFile("a", none), isFile("b", bad)}},
		"spoilt, missing":             {api.Corrupt, []node.Entry{isFile("a", bad), isFile("b", none)}},
		"missing, a wrong kind":       {api.Missing, []node.Entry{isDir("a", none), isDir("b", x)}},
		"a wrong kind, missing":       {api.Corrupt, []node.Entry{isDir("a", x), isDir("b", none)}},
		"missing in a, then spoilt":   {api.Missing, []node.Entry{isDir("a", missing), isFile("b", bad)}},
		"spoilt in a, then missing":   {api.Corrupt, []node.Entry{isDir("a", corrupt), isFile("b", none)}},
		"spoilt, then missing in b":   {api.Corrupt, []node.Entry{isDir("a", badDir), isDir("b", missing)}},
		"missing, then spoilt in b":   {api.Missing, []node.Entry{isDir("a", none), isDir("b", corrupt)}},
		"by entries, not by paths":    {api.Missing, []node.Entry{isDir("a", missing), isFile("a.b", bad)}},
		"by entries, the other way":   {api.Corrupt, []node.Entry{isDir("a", corrupt), isFile("a!", none)}},
		"fine, missing, spoilt":       {api.Missing, []node.Entry{isFile("a", x), isDir("b", missing), isDir("c", corrupt)}},
		"deep, spoilt ahead":          {api.Corrupt, []node.Entry{isDir("a", dirOf(t, o, isDir("a", corrupt), isDir("b", missing)))}},
		"deep, missing ahead":         {api.Missing, []node.Entry{isDir("a", dirOf(t, o, isDir("a", missing), isDir("b", corrupt)))}},
		"deep in a, then beside":      {api.Missing, []node.Entry{isDir("a", dirOf(t, o, isDir("a", dirOf(t, o, isDir("z", missing))), isFile("b", bad)))}},
		"a file where a dir must be":  {api.Corrupt, []node.Entry{isDir("a", x), isDir("b", missing)}},
		"a dir where a file must be":  {api.Corrupt, []node.Entry{isFile("a", missing), isFile("b", none)}},
		"chunks do not come into it ": {api.Missing, []node.Entry{isFile("a", fileOf(t, o, 1, spoilt(t, o, 1, "turned"))), isFile("b", none)}},
	} {
		noLeaves(t, what, o, dirOf(t, o, c.l...), c.want)
	}
}

// While the system is down, what waits is got, and what is in packs is not.
func TestP1601Down(t *testing.T) {
	o := empty(t)
	packed, packedDir := small(t, o, "packed"), dirOf(t, o)
	oldRoot := dirOf(t, o, isFile("a", packed))
	flush(t, o)
	waits, waitsDir := small(t, o, "waits"), dirOf(t, o, isFile("f", small(t, o, "waits")))
	all := dirOf(t, o, isDir("a", waitsDir), isFile("b", waits))
	cases := map[string]struct {
		want api.Fault
		l    []node.Entry
	}{
		"a file":               {api.Down, []node.Entry{isFile("a", packed)}},
		"a directory":          {api.Down, []node.Entry{isDir("a", packedDir)}},
		"behind what waits":    {api.Down, []node.Entry{isDir("a", waitsDir), isFile("b", packed)}},
		"down, missing":        {api.Down, []node.Entry{isFile("a", packed), isFile("b", gone(1))}},
		"missing, down":        {api.Missing, []node.Entry{isFile("a", gone(1)), isFile("b", packed)}},
		"down, a wrong kind":   {api.Down, []node.Entry{isFile("a", packed), isFile("b", waitsDir)}},
		"a wrong kind, down":   {api.Corrupt, []node.Entry{isFile("a", waitsDir), isFile("b", packed)}},
		"a kind that is wrong": {api.Down, []node.Entry{isDir("a", packed)}},
		"in a, then missing":   {api.Down, []node.Entry{isDir("a", dirOf(t, o, isFile("x", packed))), isFile("b", gone(1))}},
	}
	roots := map[string]api.Hash{}
	for what, c := range cases {
		roots[what] = dirOf(t, o, c.l...)
	}
	goesDown(t, o.FS())
	leaves(t, "all waits", o, all, leafDir("a", waitsDir), leaf("a/f", waits, 5), leaf("b", waits, 5))
	noLeaves(t, "the root", o, oldRoot, api.Down)
	noLeaves(t, "no root", o, gone(9), api.NotFound)
	for what, c := range cases {
		noLeaves(t, what, o, roots[what], c.want)
	}
}

// deepDir: h within so many directories, one in another, each of them named d.
func deepDir(t *testing.T, o *store.Store, e node.Entry, n int) api.Hash {
	t.Helper()
	h := dirOf(t, o, e)
	for range n {
		h = dirOf(t, o, isDir("d", h))
	}
	return h
}

func TestP1601Deep(t *testing.T) {
	o := empty(t)
	x, e := small(t, o, "x"), dirOf(t, o)
	for _, name := range []string{"d", strings.Repeat("n", 20)} {
		for n := range 6 {
			l, f := restore.Leaves(o, deepDir(t, o, isFile(name, x), n))
			if f != api.OK || len(l) != n+1 || l[n].Path != strings.Repeat("d/", n)+name {
				t.Errorf("%d deep: %s, fault %d", n+1, told(l), f)
			}
			l, f = restore.Leaves(o, deepDir(t, o, isDir(name, e), n))
			if f != api.OK || len(l) != n+1 || l[n].Path != strings.Repeat("d/", n)+name {
				t.Errorf("%d deep, a directory: %s, fault %d", n+1, told(l), f)
			}
		}
		for n := 6; n < 9; n++ {
			noLeaves(t, fmt.Sprint(n+1, " deep, a file"), o, deepDir(t, o, isFile(name, x), n), api.Corrupt)
			noLeaves(t, fmt.Sprint(n+1, " deep, a directory"), o, deepDir(t, o, isDir(name, e), n), api.Corrupt)
		}
	}
}

// What stands too deep is got first, and a fault of it is told ahead; what is in it is not got.
func TestP1601TooDeepAndNotThere(t *testing.T) {
	o := empty(t)
	noLeaves(t, "a file too deep", o, deepDir(t, o, isFile("f", gone(1)), 6), api.Missing)
	noLeaves(t, "a directory too deep", o, deepDir(t, o, isDir("f", gone(1)), 6), api.Missing)
	noLeaves(t, "in one too deep", o, deepDir(t, o, isFile("f", gone(1)), 7), api.Corrupt)
	x := small(t, o, "x")
	two := dirOf(t, o, isFile("a", x), isFile("b", gone(1)))
	noLeaves(t, "behind one too deep", o, deepDir(t, o, isDir("d", two), 5), api.Corrupt)
	noLeaves(t, "ahead of one too deep", o, dirOf(t, o, isFile("a", gone(1)), isDir("d", deepDir(t, o, isFile("f", x), 6))), api.Missing)
	noLeaves(t, "beside one too deep", o, dirOf(t, o, isDir("d", deepDir(t, o, isFile("f", x), 6)), isFile("e", gone(1))), api.Corrupt)
}

// wide: the entries of n files.
func wide(n int, h api.Hash) (l []node.Entry) {
	for i := range n {
		l = append(l, isFile(fmt.Sprintf("f%02d", i), h))
	}
	return l
}

func TestP1601MaxItems(t *testing.T) {
	o := empty(t)
	x, e := small(t, o, "x"), dirOf(t, o)
	fits := map[string]api.Hash{
		"60 files":                    dirOf(t, o, wide(60, x)...),
		"59, and a directory ahead":   dirOf(t, o, append(wide(59, x), isDir("a", e))...),
		"59, and a directory behind":  dirOf(t, o, append(wide(59, x), isDir("z", e))...),
		"in a directory":              dirOf(t, o, isDir("a", dirOf(t, o, wide(59, x)...))),
		"in two":                      dirOf(t, o, isDir("a", dirOf(t, o, wide(29, x)...)), isDir("b", dirOf(t, o, wide(29, x)...))),
		"three times what is in one ": dirOf(t, o, isDir("a", dirOf(t, o, wide(19, x)...)), isDir("b", dirOf(t, o, wide(19, x)...)), isDir("c", dirOf(t, o, wide(19, x)...))),
	}
	for what, h := range fits {
		if l, f := restore.Leaves(o, h); f != api.OK || len(l) != 60 {
			t.Errorf("%s: %s, fault %d", what, told(l), f)
		}
	}
	more := map[string]api.Hash{
		"59, and one in a directory ahead":  dirOf(t, o, append(wide(59, x), isDir("a", dirOf(t, o, isFile("x", x))))...),
		"59, and one in a directory behind": dirOf(t, o, append(wide(59, x), isDir("z", dirOf(t, o, isFile("x", x))))...),
		"60 in a directory":                 dirOf(t, o, isDir("a", dirOf(t, o, wide(60, x)...))),
		"30 in two":                         dirOf(t, o, isDir("a", dirOf(t, o, wide(29, x)...)), isDir("b", dirOf(t, o, wide(30, x)...))),
		"a directory is the 61st":           dirOf(t, o, append(wide(59, x), isDir("z", dirOf(t, o, isDir("x", e))))...),
	}
	for what, h := range more {
		noLeaves(t, what, o, h, api.Corrupt)
	}
}

// What would be one too many is got first, and a fault of it is told ahead; what is behind it, or in it, is not got.
func TestP1601TooManyAndNotThere(t *testing.T) {
	o := empty(t)
	x := small(t, o, "x")
	in := func(l ...node.Entry) api.Hash {
		return dirOf(t, o, append(wide(59, x), isDir("z", dirOf(t, o, l...)))...)
	}
	noLeaves(t, "the 61st", o, in(isFile("a", gone(1))), api.Missing)
	noLeaves(t, "the 61st, a directory", o, in(isDir("a", gone(1))), api.Missing)
	noLeaves(t, "the 62nd", o, in(isFile("a", x), isFile("b", gone(1))), api.Corrupt)
	noLeaves(t, "in the 61st", o, in(isDir("a", dirOf(t, o, isFile("a", gone(1))))), api.Corrupt)
	noLeaves(t, "the 60th", o, dirOf(t, o, append(append(wide(57, x), isFile("g", gone(1))), isDir("z", dirOf(t, o, wide(9, x)...)))...), api.Missing)
	noLeaves(t, "in the first", o, dirOf(t, o, append(wide(59, x), isDir("a", dirOf(t, o, isFile("a", gone(1)))))...), api.Missing)
	// 61 and more are known ahead of the first that is not there, but not met
	noLeaves(t, "known, not met", o, dirOf(t, o, append(wide(58, x), isDir("a", dirOf(t, o, isFile("a", x), isFile("b", x))), isFile("f00a", gone(1)))...), api.Missing)
}

// A directory may stand in several places; few objects may so stand for very many leaves, which ends.
func TestP1601ManyPlaces(t *testing.T) {
	o := empty(t)
	x := small(t, o, "x")
	d := dirOf(t, o, isFile("f", x))
	two := dirOf(t, o, isDir("a", d), isDir("b", d), isFile("c", x))
	h := dirOf(t, o, isDir("p", two), isDir("q", d), isDir("r", two))
	leaves(t, "in several places", o, h,
		leafDir("p", two), leafDir("p/a", d), leaf("p/a/f", x, 1), leafDir("p/b", d), leaf("p/b/f", x, 1), leaf("p/c", x, 1),
		leafDir("q", d), leaf("q/f", x, 1),
		leafDir("r", two), leafDir("r/a", d), leaf("r/a/f", x, 1), leafDir("r/b", d), leaf("r/b/f", x, 1), leaf("r/c", x, 1))
	for range 40 {
		var l []node.Entry
		for i := range 60 {
			l = append(l, isDir(fmt.Sprintf("d%02d", i), h))
		}
		h = dirOf(t, o, l...)
		noLeaves(t, "very many", o, h, api.Corrupt)
	}
}
