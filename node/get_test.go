package node_test

import (
	"bytes"
	"fmt"
	"testing"

	"hayloft/api"
	"hayloft/node"
	"hayloft/store"
)

func TestP1402GetFile(t *testing.T) {
	for _, x := range rightFiles() {
		getsFile(t, toldFile(x), fileForm(x), x)
	}
}

func TestP1402GetDir(t *testing.T) {
	getsDir(t, "the example", []byte{3, 0, 0})
	for what, l := range rightDirs() {
		getsDir(t, what, dirForm(l...), l...)
	}
}

// Another kind is told ahead of what the Body is.
func TestP1402OtherKinds(t *testing.T) {
	bodies := [][]byte{nil, {}, {1}, []byte("x"), {3, 0, 0}, {3, 0, 1}, fileForm(file(2, 1)), fileForm(file(2, 3)), dirForm(several()...), dirForm(many(61)...), make([]byte, 4096), make([]byte, 4097), fileForm(file(2000, 142)), fileForm(file(143, 143)), fileForm(file(2000, 1872)), dirForm(many(80)...), make([]byte, 5001)}
	for _, b := range bodies {
		for _, kind := range otherKinds(2) {
			noFile(t, fmt.Sprint("kind ", kind), kind, b, api.BadArg)
		}
		for _, kind := range otherKinds(3) {
			noDir(t, fmt.Sprint("kind ", kind), kind, b, api.BadArg)
		}
	}
}

// Forms that Put would make if it were not for what is right.
func TestP1402FormsOfWhatIsNotRight(t *testing.T) {
	for _, x := range wrongFiles() {
		if b := fileForm(x); x.Size >= 0 && len(b) <= 65538 {
			noFile(t, toldFile(x), 2, b, api.Malformed)
		}
	}
	for what, l := range wrongDirs() {
		if b := dirForm(l...); len(b) <= 65538 {
			noDir(t, what, 3, b, api.Malformed)
		}
	}
}

// Of each number of chunks that a form has room for, with the smallest Size that has so many
// and with the greatest: a Body of more bytes than an object has is no file's.
func TestP1402FilesOfMoreThanAnObject(t *testing.T) {
	all := hashes(1872)
	for n := 1; n <= len(all); n++ {
		for _, size := range []int{n, api.MaxFile} {
			x := node.File{Size: size, Chunks: all[:n]}
			if n > mostChunks {
				noFile(t, toldFile(x), 2, fileForm(x), api.Malformed)
			} else {
				getsFile(t, toldFile(x), fileForm(x), x)
			}
		}
	}
}

// A file's form is no directory's, but a directory's of no entry; neither is the other way around.
func TestP1402TheOtherSort(t *testing.T) {
	for _, x := range rightFiles() {
		noDir(t, "a file: "+toldFile(x), 3, fileForm(x), api.Malformed)
	}
	for what, l := range rightDirs() {
		noFile(t, "a directory: "+what, 2, dirForm(l...), api.Malformed)
	}
}

func TestP1402NoForms(t *testing.T) {
	f, d := fileForm(file(2, 2)), dirForm(several()...)
	deep := form(3)
	for range 8 {
		deep = form(3, deep)
	}
	for what, b := range map[string][]byte{
		"nil":                    nil,
		"nothing":                {},
		"a byte":                 {3},
		"two bytes":              {3, 0},
		"tag 0":                  {0, 0, 0},
		"tag 4":                  {4, 0, 0},
		"a length that is more":  {3, 0, 1},
		"nested nine deep":       deep,
		"a file and a byte":      append(bytes.Clone(f), 0),
		"a file and a list":      append(bytes.Clone(f), 3, 0, 0),
		"a file twice":           append(bytes.Clone(f), f...),
		"a directory and a byte": append(bytes.Clone(d), 0),
		"a directory and a list": append(bytes.Clone(d), 3, 0, 0),
		"a directory twice":      append(bytes.Clone(d), d...),
		"two empty directories":  {3, 0, 0, 3, 0, 0},
		"a file without a list":  f[3:],
		"a byte within a file":   form(3, num(2), chunksForm(hashes(1)...), []byte{0}),
		"a byte within chunks":   form(3, num(2), form(3, form(2, make([]byte, 32)), []byte{0})),
		"a byte within entries":  form(3, entryForm(isFile("a", 1)), []byte{0}),
		"Size with a 0 ahead":    form(3, form(1, []byte{0, 2}), chunksForm(hashes(1)...)),
		"Size 0 of a byte 0":     form(3, form(1, []byte{0}), form(3)),
		"Size of nine bytes":     form(3, form(1, make([]byte, 9)), chunksForm(hashes(1)...)),
		"kind of a byte 0":       form(3, form(3, form(2, []byte("a")), form(1, []byte{0}), form(2, make([]byte, 32)))),
		"kind with a 0 ahead":    form(3, form(3, form(2, []byte("a")), form(1, []byte{0, 1}), form(2, make([]byte, 32)))),
		"words":                  []byte("hay in a loft"),
		"70000 bytes":            bytes.Repeat([]byte{3, 0, 0}, 70000/3),
	} {
		noFile(t, what, 2, b, api.Malformed)
		noDir(t, what, 3, b, api.Malformed)
	}
}

func TestP1402CutShort(t *testing.T) {
	for _, b := range [][]byte{fileForm(file(0, 0)), fileForm(file(300, 3)), dirForm(), dirForm(several()...)} {
		for n := range b {
			noFile(t, "cut", 2, b[:n], api.Malformed)
			noDir(t, "cut", 3, b[:n], api.Malformed)
		}
	}
}

// Right forms of values that are no file.
func TestP1402FilesOfOtherSorts(t *testing.T) {
	n, h, chunks := num(2), form(2, bytes.Repeat([]byte{9}, 32)), chunksForm(hashes(1)...)
	for what, b := range map[string][]byte{
		"a number":                n,
		"the number 0":            num(0),
		"no bytes":                form(2),
		"bytes":                   form(2, []byte("x")),
		"bytes of a file":         form(2, fileForm(file(2, 1))),
		"a list of nothing":       form(3),
		"a list about it":         form(3, fileForm(file(2, 1))),
		"Size alone":              form(3, n),
		"Size 0 alone":            form(3, num(0)),
		"chunks alone":            form(3, chunks),
		"the other way around":    form(3, chunks, n),
		"a number more":           form(3, n, chunks, n),
		"a list more":             form(3, n, chunks, form(3)),
		"a number more ahead":     form(3, n, n, chunks),
		"chunks twice":            form(3, n, chunks, chunks),
		"Size bytes":              form(3, form(2, []byte{2}), chunks),
		"Size no bytes":           form(3, form(2), form(3)),
		"Size a list":             form(3, form(3, n), chunks),
		"Size an empty list":      form(3, form(3), form(3)),
		"chunks a number":         form(3, n, n),
		"no chunks, the number 0": form(3, num(0), num(0)),
		"chunks bytes":            form(3, n, h),
		"no chunks, no bytes":     form(3, num(0), form(2)),
		"chunks in the list":      form(3, n, h, h),
		"a chunk a number":        form(3, n, form(3, n)),
		"a chunk the number 0":    form(3, n, form(3, num(0))),
		"a chunk a list":          form(3, n, form(3, form(3, h))),
		"a chunk an empty list":   form(3, n, form(3, form(3))),
		"a chunk of no byte":      form(3, n, form(3, form(2))),
		"a chunk of 31":           form(3, n, form(3, form(2, make([]byte, 31)))),
		"a chunk of 33":           form(3, n, form(3, form(2, make([]byte, 33)))),
		"a chunk of 64":           form(3, n, form(3, form(2, make([]byte, 64)))),
		"the last of 31":          form(3, n, form(3, h, form(2, make([]byte, 31)))),
		"the last of 33":          form(3, n, form(3, h, form(2, make([]byte, 33)))),
		"the last a number":       form(3, n, form(3, h, num(0))),
	} {
		noFile(t, what, 2, b, api.Malformed)
	}
	getsFile(t, "all of their sorts", form(3, n, form(3, h)), node.File{Size: 2, Chunks: []api.Hash{api.Hash(bytes.Repeat([]byte{9}, 32))}})
}

// Numbers that are no int, or whose lowest bits alone would do.
func TestP1402FilesOfGreatSizes(t *testing.T) {
	for _, size := range []uint64{2001, 1 << 16, 1<<16 + 2, 1<<31 + 2, 1 << 32, 1<<32 + 2, 1<<63 - 1, 1 << 63, 1<<63 + 2, 1<<64 - 2, 1<<64 - 1} {
		for _, n := range []int{0, 1, 2} {
			noFile(t, fmt.Sprint("Size ", size), 2, form(3, num(size), chunksForm(hashes(n)...)), api.Malformed)
		}
	}
}

// Right forms of values that are no entries.
func TestP1402EntriesOfOtherSorts(t *testing.T) {
	name, n, h := form(2, []byte("b")), num(1), form(2, bytes.Repeat([]byte{9}, 32))
	whole := form(3, name, n, h)
	for what, b := range map[string][]byte{
		"a number":                  n,
		"the number 0":              num(0),
		"no bytes":                  form(2),
		"bytes":                     form(2, []byte("x")),
		"bytes of a directory":      form(2, form(3, whole)),
		"an entry alone":            whole,
		"a list about it":           form(3, form(3, whole)),
		"an entry that is a number": form(3, n),
		"an entry that is bytes":    form(3, form(2, name, n, h)),
		"an entry that is no bytes": form(3, form(2)),
		"an entry of nothing":       form(3, form(3)),
		"an entry of a name":        form(3, form(3, name)),
		"no Hash":                   form(3, form(3, name, n)),
		"no kind":                   form(3, form(3, name, h)),
		"no name":                   form(3, form(3, n, h)),
		"an entry of four":          form(3, form(3, name, n, h, n)),
		"a list more":               form(3, form(3, name, n, h, form(3))),
		"a Hash more":               form(3, form(3, name, n, h, h)),
		"a number behind":           form(3, whole, n),
		"two of three behind":       form(3, whole, form(3, form(2, []byte("c")), n)),
		"one of four behind":        form(3, whole, form(3, form(2, []byte("c")), n, h, n)),
		"the other way around":      form(3, form(3, h, n, name)),
		"kind ahead":                form(3, form(3, n, name, h)),
		"Name a number":             form(3, form(3, num('b'), n, h)),
		"Name a list":               form(3, form(3, form(3, name), n, h)),
		"Name no bytes":             form(3, form(3, form(2), n, h)),
		"kind bytes":                form(3, form(3, name, form(2, []byte{1}), h)),
		"kind no bytes":             form(3, form(3, name, form(2), h)),
		"kind a list":               form(3, form(3, name, form(3, n), h)),
		"kind an empty list":        form(3, form(3, name, form(3), h)),
		"Hash a number":             form(3, form(3, name, n, n)),
		"Hash the number 0":         form(3, form(3, name, n, num(0))),
		"Hash a list":               form(3, form(3, name, n, form(3, h))),
		"Hash an empty list":        form(3, form(3, name, n, form(3))),
		"Hash of no byte":           form(3, form(3, name, n, form(2))),
		"Hash of 31":                form(3, form(3, name, n, form(2, make([]byte, 31)))),
		"Hash of 33":                form(3, form(3, name, n, form(2, make([]byte, 33)))),
		"Hash of 64":                form(3, form(3, name, n, form(2, make([]byte, 64)))),
	} {
		noDir(t, what, 3, b, api.Malformed)
	}
	for _, kind := range []uint64{2, 3, 255, 256, 257, 1 << 16, 1 << 32, 1<<32 + 1, 1 << 63, 1<<63 + 1, 1<<64 - 1} {
		noDir(t, fmt.Sprint("kind ", kind), 3, form(3, form(3, name, num(kind), h)), api.Malformed)
	}
	nine := api.Hash(bytes.Repeat([]byte{9}, 32))
	getsDir(t, "a directory", form(3, whole), node.Entry{Name: "b", Dir: true, Hash: nine})
	getsDir(t, "a file", form(3, form(3, name, num(0), h)), node.Entry{Name: "b", Hash: nine})
}

// asWords holds all that reads an object against the chapter's words; it tells whether it was a right one.
func asWords(t *testing.T, what string, b []byte) bool {
	t.Helper()
	x, isFile := wordsGetFile(b)
	if isFile {
		getsFile(t, what, b, x)
	} else {
		noFile(t, what, 2, b, api.Malformed)
	}
	l, isDir := wordsGetDir(b)
	if isDir {
		getsDir(t, what, b, l...)
	} else {
		noDir(t, what, 3, b, api.Malformed)
	}
	return isFile || isDir
}

// Any one byte is any other one.
func TestP1402OtherBytes(t *testing.T) {
	good := 0
	for _, b := range [][]byte{fileForm(file(0, 0)), fileForm(file(1, 1)), fileForm(file(300, 2)), dirForm(), dirForm(isFile("a", 1)), dirForm(isDir("ab", 300), isFile("b", 2))} {
		for i := range b {
			for x := range 256 {
				c := bytes.Clone(b)
				c[i] = byte(x)
				if asWords(t, "another byte", c) {
					good++
				}
			}
		}
	}
	if good < 10000 {
		t.Errorf("just %d were right", good)
	}
}

// Whatever is read is put as just the bytes that were read.
func FuzzGet(f *testing.F) {
	f.Add(fileForm(file(0, 0)))
	f.Add(fileForm(file(300, 2)))
	f.Add(fileForm(file(2000, 142)))
	f.Add(fileForm(file(143, 143)))
	f.Add(dirForm())
	f.Add(dirForm(several()...))
	f.Fuzz(func(t *testing.T, b []byte) {
		if x, fault := node.GetFile(store.Object{Kind: 2, Body: b}); fault == api.OK {
			o, g := node.PutFile(x)
			isObject(t, "a file", o, g, 2, b)
		}
		if l, fault := node.GetDir(store.Object{Kind: 3, Body: b}); fault == api.OK {
			o, g := node.PutDir(l)
			isObject(t, "a directory", o, g, 3, b)
		}
		asWords(t, "any bytes", b)
	})
}
