package node_test

import (
	"bytes"
	"fmt"
	"math"
	"strings"
	"testing"

	"hayloft/api"
	"hayloft/node"
)

func TestP1401Chunk(t *testing.T) {
	for _, n := range []int{1, 2, 15, 16, 32, 64, 65, 2000, 2001, 4095, 4096} {
		b := bytes.Repeat([]byte{byte(n), 0, 255}, n)[:n]
		o, f := node.Chunk(b)
		isObject(t, fmt.Sprint(n, " bytes"), o, f, 1, b)
	}
	for _, b := range [][]byte{{0}, {255}, {3, 0, 0}} {
		o, f := node.Chunk(b)
		isObject(t, "its very bytes", o, f, 1, b)
	}
}

func TestP1401ChunkOfWrongBytes(t *testing.T) {
	for _, b := range [][]byte{nil, {}, make([]byte, 4097), make([]byte, 4098), make([]byte, 5000), make([]byte, 5001), make([]byte, 8192), make([]byte, 65536), make([]byte, 65537), make([]byte, 1<<20)} {
		o, f := node.Chunk(b)
		noObject(t, fmt.Sprint(len(b), " bytes"), o, f)
	}
	o, f := node.Chunk(make([]byte, 0, 64))
	noObject(t, "spare room alone", o, f)
}

func TestP1401PutFileByteForByte(t *testing.T) {
	ab := bytes.Repeat([]byte{0xAB}, 32)
	for what, x := range map[string]struct {
		x    node.File
		want []byte
	}{
		"Size 0":   {node.File{}, []byte{3, 0, 6, 1, 0, 0, 3, 0, 0}},
		"Size 1":   {node.File{Size: 1, Chunks: []api.Hash{{}}}, bytes.Join([][]byte{{3, 0, 42, 1, 0, 1, 1, 3, 0, 35, 2, 0, 32}, make([]byte, 32)}, nil)},
		"Size 300": {node.File{Size: 300, Chunks: []api.Hash{api.Hash(ab), {}}}, bytes.Join([][]byte{{3, 0, 78, 1, 0, 2, 1, 44, 3, 0, 70, 2, 0, 32}, ab, {2, 0, 32}, make([]byte, 32)}, nil)},
	} {
		o, f := node.PutFile(x.x)
		isObject(t, what, o, f, 2, x.want)
	}
}

// rightFiles: at the edges; 142 chunks are as many as an object has room for.
func rightFiles() []node.File {
	return []node.File{
		{}, {Chunks: []api.Hash{}},
		file(1, 1), file(2, 1), file(2, 2), file(3, 1), file(3, 2), file(3, 3), file(16, 1), file(60, 60), file(64, 61),
		file(141, 141), file(142, 141), file(142, 142), file(143, 142), file(255, 9), file(255, 142), file(256, 142), file(1999, 1), file(1999, 90),
		file(2000, 1), file(2000, 32), file(2000, 125), file(2000, 141), file(2000, 142),
		{Size: 5, Chunks: []api.Hash{{}, {}, {}}},
		{Size: 9, Chunks: []api.Hash{named(2), named(1), named(2), named(2)}},
	}
}

// wrongFiles: each is beyond one edge, or several.
func wrongFiles() []node.File {
	l := []node.File{
		file(0, 1), file(0, 2), file(0, 2000),
		file(1, 0), {Size: 1, Chunks: []api.Hash{}}, file(1, 2), file(1, 3),
		file(2, 0), file(2, 3), file(9, 10), file(60, 61), file(1000, 0), file(1000, 1001), file(1999, 2000),
		file(2000, 0), file(2000, 2001), file(2000, 4000), file(2000, 65536), file(2000, 65537),
		file(143, 143), file(144, 143), file(255, 143), file(256, 143), file(2000, 143), file(144, 144), file(2000, 144), file(256, 256),
		file(1872, 1871), file(1872, 1872), file(2000, 1872), file(1873, 1873), file(2000, 1873), file(2000, 2000),
	}
	for _, n := range []int{2001, 2002, 4000, 65535, 65536, 65537, 1<<32 + 1, math.MaxInt32, math.MaxInt - 1, math.MaxInt, -1, -2, -2000, math.MinInt32, math.MinInt + 1, math.MinInt} {
		l = append(l, file(n, 0), file(n, 1), file(n, 2), file(n, 2001))
	}
	return l
}

func TestP1401PutFile(t *testing.T) {
	for _, x := range rightFiles() {
		o, f := node.PutFile(x)
		isObject(t, toldFile(x), o, f, 2, fileForm(x))
	}
	for n := range 61 {
		for chunks := range n + 4 {
			x := file(n, chunks)
			o, f := node.PutFile(x)
			if chunks > n || n > 0 && chunks == 0 {
				noObject(t, toldFile(x), o, f)
			} else {
				isObject(t, toldFile(x), o, f, 2, fileForm(x))
			}
		}
	}
}

func TestP1401PutFileOfWrongFiles(t *testing.T) {
	for _, x := range wrongFiles() {
		o, f := node.PutFile(x)
		noObject(t, toldFile(x), o, f)
	}
}

// mostChunks: of a file that an object has room for.
const mostChunks = 142

// Of each number of chunks, with the smallest Size that has so many and with the greatest: a
// Body of more bytes than an object has is none's, whether a form has room for it or not.
func TestP1401PutFileOfMoreThanAnObject(t *testing.T) {
	all := hashes(api.MaxFile)
	for n := 1; n <= api.MaxFile; n++ {
		for _, size := range []int{n, api.MaxFile} {
			x := node.File{Size: size, Chunks: all[:n]}
			o, f := node.PutFile(x)
			if n > mostChunks {
				noObject(t, toldFile(x), o, f)
			} else {
				isObject(t, toldFile(x), o, f, 2, fileForm(x))
			}
		}
	}
}

// The two Bodies at the edge have just so many bytes, whatever the hashes are.
func TestP1401PutFileThatJustFits(t *testing.T) {
	for size, want := range map[int]int{142: 4980, 255: 4980, 256: 4981, 2000: 4981} {
		for _, l := range [][]api.Hash{hashes(mostChunks), make([]api.Hash, mostChunks)} {
			o, f := node.PutFile(node.File{Size: size, Chunks: l})
			if f != api.OK || o.Kind != 2 || len(o.Body) != want {
				t.Errorf("Size %d: fault %d, kind %d, %d bytes; not %d", size, f, o.Kind, len(o.Body), want)
			}
		}
	}
	for _, size := range []int{143, 255, 256, 2000} {
		o, f := node.PutFile(node.File{Size: size, Chunks: make([]api.Hash, mostChunks+1)})
		noObject(t, fmt.Sprint("143 chunks, Size ", size), o, f)
	}
}

func TestP1401ExampleOfNoEntry(t *testing.T) {
	for _, l := range [][]node.Entry{nil, {}} {
		o, f := node.PutDir(l)
		isObject(t, "no entry", o, f, 3, []byte{3, 0, 0})
	}
}

func TestP1401PutDirByteForByte(t *testing.T) {
	ab := bytes.Repeat([]byte{0xAB}, 32)
	want := bytes.Join([][]byte{
		{3, 0, 94},
		{3, 0, 44, 2, 0, 2, 'a', '!', 1, 0, 1, 1, 2, 0, 32},
		ab,
		{3, 0, 44, 2, 0, 3, 'b', '~', '0', 1, 0, 0, 2, 0, 32},
		make([]byte, 32),
	}, nil)
	o, f := node.PutDir([]node.Entry{{Name: "a!", Dir: true, Hash: api.Hash(ab)}, {Name: "b~0"}})
	isObject(t, "two entries", o, f, 3, want)
}

// rightDirs: at the edges, by what they are.
func rightDirs() map[string][]node.Entry {
	least, most := strings.Repeat("!", 20), strings.Repeat("~", 20)
	m := map[string][]node.Entry{
		"none":                {},
		"a file":              {isFile("a", 1)},
		"a directory":         {isDir("a", 1)},
		"the zero hash":       {{Name: "a"}, {Name: "b", Dir: true}},
		"one hash":            {isFile("a", 1), isFile("b", 1), isDir("c", 1)},
		"several":             several(),
		"59":                  many(59),
		"60":                  many(60),
		"names of 20":         {isFile(least, 1), isDir(most, 2)},
		"a name and longer":   {isFile("a", 3), isFile("a!", 2), isFile("aa", 1)},
		"points":              {isFile("...", 1), isFile("..a", 2), isFile(".a", 3), isFile("a.", 4)},
		"capitals are ahead":  {isFile("B", 1), isFile("a", 2)},
		"numbers are no more": {isFile("10", 1), isFile("9", 2)},
	}
	for c := byte('!'); c <= '~'; c++ {
		if c != '/' && c != '.' {
			m["the name "+string(c)] = []node.Entry{isFile(string(c), int(c))}
		}
	}
	return m
}

// wrongNames: what is no part.
func wrongNames() []string {
	l := []string{"", ".", "..", "/", "a/", "/a", "a/b", "../a", "a b", " a", "a ", "a\x00", "\xff", "é", "日本", strings.Repeat("n", 21), strings.Repeat("n", 300), strings.Repeat("n", 70000)}
	for c := range 256 {
		if c < '!' || c > '~' {
			l = append(l, string([]byte{byte(c)}), "a"+string([]byte{byte(c)}))
		}
	}
	return l
}

// wrongDirs: each of them breaks one word of what right entries are, or several.
func wrongDirs() map[string][]node.Entry {
	m := map[string][]node.Entry{
		"61":                       many(61),
		"120":                      many(120),
		"1000":                     many(1000),
		"70000 alike":              make([]node.Entry, 70000),
		"a name twice":             {isFile("a", 1), isFile("a", 2)},
		"an entry twice":           {isFile("a", 1), isFile("a", 1)},
		"a file and a directory":   {isFile("a", 1), isDir("a", 1)},
		"a directory and a file":   {isDir("a", 1), isFile("a", 1)},
		"the last one twice":       {isFile("a", 1), isFile("b", 2), isFile("b", 3)},
		"the same again":           {isFile("a", 1), isFile("b", 2), isFile("a", 1)},
		"falling":                  {isFile("b", 1), isFile("a", 2)},
		"falling at the end":       {isFile("a", 1), isFile("c", 2), isFile("b", 3)},
		"falling in the midst":     {isFile("a", 1), isFile("d", 2), isFile("c", 3), isFile("e", 4)},
		"the longer first":         {isFile("ab", 1), isFile("a", 2)},
		"by numbers, not by bytes": {isFile("9", 1), isFile("10", 2)},
		"by letters, not by bytes": {isFile("a", 1), isFile("B", 2)},
		"directories first":        {isDir("b", 1), isFile("a", 2)},
		"by hashes":                {isFile("b", 1), isFile("a", 2), isFile("c", 3)},
		"the zero entry":           {{}},
		"two zero entries":         {{}, {}},
	}
	for i, n := range wrongNames() {
		m[fmt.Sprintf("name %d, %.30q", i, n)] = []node.Entry{isFile(n, 1)}
		m[fmt.Sprintf("name %d, %.30q, a directory", i, n)] = []node.Entry{isDir(n, 1)}
	}
	for _, n := range []string{"", ".", "/", " ", "a/b"} {
		m[fmt.Sprintf("%q ahead", n)] = []node.Entry{isFile(n, 1), isFile("x", 2)}
		m[fmt.Sprintf("%q behind", n)] = []node.Entry{isFile("!", 1), isFile("-x", 2), isDir(n, 3)}
		m[fmt.Sprintf("%q between", n)] = []node.Entry{isFile("!", 1), isDir(n, 3), isFile("x", 2)}
	}
	m["the last of 60"] = append(many(59), isFile("z z", 1))
	return m
}

func TestP1401PutDir(t *testing.T) {
	for what, l := range rightDirs() {
		o, f := node.PutDir(l)
		isObject(t, what, o, f, 3, dirForm(l...))
	}
}

func TestP1401PutDirOfWrongEntries(t *testing.T) {
	for what, l := range wrongDirs() {
		o, f := node.PutDir(l)
		noObject(t, what, o, f)
	}
}
