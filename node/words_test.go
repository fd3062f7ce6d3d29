package node_test

import (
	"encoding/binary"
	"math/rand"
	"slices"
	"testing"

	"hayloft/api"
	"hayloft/node"
)

// wordsPart: whether s is a part, by the words of the tree's chapter.
func wordsPart(s string) bool {
	for _, c := range []byte(s) {
		if c < 33 || 126 < c || c == '/' {
			return false
		}
	}
	return 1 <= len(s) && len(s) <= 20 && s != "." && s != ".."
}

// wordsRight: whether entries are, by the chapter's words.
func wordsRight(l []node.Entry) bool {
	for i, e := range l {
		if !wordsPart(e.Name) || i > 0 && l[i-1].Name >= e.Name {
			return false
		}
	}
	return len(l) <= 60
}

// wordsRightFile: whether x is right, and has a Body of no more bytes than an object has.
func wordsRightFile(x node.File) bool {
	if x.Size == 0 {
		return len(x.Chunks) == 0
	}
	return 0 < x.Size && x.Size <= 2000 && 1 <= len(x.Chunks) && len(x.Chunks) <= x.Size && len(fileForm(x)) <= 5000
}

// take: what a form of that tag has in it, which b begins with, and what is behind.
func take(tag byte, b []byte) (in, rest []byte, ok bool) {
	if len(b) < 3 || b[0] != tag {
		return nil, nil, false
	}
	end := 3 + int(b[1])*256 + int(b[2])
	if len(b) < end {
		return nil, nil, false
	}
	return b[3:end], b[end:], true
}

// takeNumber: the number whose form b begins with, and what is behind.
func takeNumber(b []byte) (uint64, []byte, bool) {
	in, rest, ok := take(1, b)
	if !ok || len(in) > 8 || len(in) > 0 && in[0] == 0 {
		return 0, nil, false
	}
	return binary.BigEndian.Uint64(append(make([]byte, 8-len(in)), in...)), rest, true
}

func takeHash(b []byte) (api.Hash, []byte, bool) {
	in, rest, ok := take(2, b)
	if !ok || len(in) != 32 {
		return api.Hash{}, nil, false
	}
	return api.Hash(in), rest, true
}

// wordsGetFile: the right file whose Body b is.
func wordsGetFile(b []byte) (node.File, bool) {
	in, rest, ok := take(3, b)
	if !ok || len(rest) != 0 {
		return node.File{}, false
	}
	size, in, ok := takeNumber(in)
	if !ok || size > 2000 {
		return node.File{}, false
	}
	in, rest, ok = take(3, in)
	if !ok || len(rest) != 0 {
		return node.File{}, false
	}
	x := node.File{Size: int(size)}
	for len(in) > 0 {
		var h api.Hash
		if h, in, ok = takeHash(in); !ok {
			return node.File{}, false
		}
		x.Chunks = append(x.Chunks, h)
	}
	return x, wordsRightFile(x)
}

// takeEntry: the entry whose list b begins with, and what is behind.
func takeEntry(b []byte) (e node.Entry, rest []byte, ok bool) {
	in, rest, ok := take(3, b)
	if !ok {
		return e, nil, false
	}
	name, in, ok := take(2, in)
	if !ok {
		return e, nil, false
	}
	n, in, ok := takeNumber(in)
	if !ok || n > 1 {
		return e, nil, false
	}
	h, in, ok := takeHash(in)
	return node.Entry{Name: string(name), Dir: n == 1, Hash: h}, rest, ok && len(in) == 0
}

// wordsGetDir: the right entries whose Body b is.
func wordsGetDir(b []byte) ([]node.Entry, bool) {
	in, rest, ok := take(3, b)
	if !ok || len(rest) != 0 {
		return nil, false
	}
	var l []node.Entry
	for len(in) > 0 {
		var e node.Entry
		if e, in, ok = takeEntry(in); !ok {
			return nil, false
		}
		l = append(l, e)
	}
	return l, wordsRight(l)
}

// wordsSort: of each name the first one, and then by names.
func wordsSort(l []node.Entry) []node.Entry {
	first := map[string]node.Entry{}
	var names []string
	for _, e := range l {
		if _, ok := first[e.Name]; !ok {
			first[e.Name] = e
			names = append(names, e.Name)
		}
	}
	slices.Sort(names)
	var out []node.Entry
	for _, n := range names {
		out = append(out, first[n])
	}
	return out
}

// wordsFind: one behind the other.
func wordsFind(l []node.Entry, name string) (node.Entry, bool) {
	if wordsRight(l) {
		for _, e := range l {
			if e.Name == name {
				return e, true
			}
		}
	}
	return node.Entry{}, false
}

// anyName: of few letters, and now and then no part.
func anyName(r *rand.Rand) string {
	letters := "aB!~.0"
	if r.Intn(30) == 0 {
		letters = "a/ \x00\x7f\xff"
	}
	b := make([]byte, 1+r.Intn(3))
	if r.Intn(40) == 0 {
		b = make([]byte, r.Intn(23))
	}
	for i := range b {
		b[i] = letters[r.Intn(len(letters))]
	}
	return string(b)
}

func anyHash(r *rand.Rand) (h api.Hash) {
	if r.Intn(4) > 0 {
		r.Read(h[:])
	}
	return h
}

// anyEntries: at most so many, in any order, most of them with names that are parts.
func anyEntries(r *rand.Rand, most int) []node.Entry {
	var l []node.Entry
	for range r.Intn(most + 1) {
		l = append(l, node.Entry{Name: anyName(r), Dir: r.Intn(2) == 0, Hash: anyHash(r)})
	}
	return l
}

// anyRight: at most 60 right entries.
func anyRight(r *rand.Rand) []node.Entry {
	l := slices.DeleteFunc(anyEntries(r, 90), func(e node.Entry) bool { return !wordsPart(e.Name) })
	l = wordsSort(l)
	return l[:min(len(l), 60)]
}

// anyFile: of a Size about 0 to 2000, most of them right, some with about as many chunks as
// an object has room for.
func anyFile(r *rand.Rand) node.File {
	x := node.File{Size: []int{r.Intn(4), r.Intn(80), 1950 + r.Intn(60), r.Intn(2001)}[r.Intn(4)]}
	n := r.Intn(min(x.Size, 70) + 2)
	if r.Intn(20) == 0 {
		n = 138 + r.Intn(9)
	}
	for range n {
		x.Chunks = append(x.Chunks, anyHash(r))
	}
	return x
}

func TestP1401AsTheWords(t *testing.T) {
	r := rand.New(rand.NewSource(1401))
	right := 0
	for range 20000 {
		x := anyFile(r)
		o, f := node.PutFile(x)
		if wordsRightFile(x) {
			right++
			isObject(t, toldFile(x), o, f, 2, fileForm(x))
		} else {
			noObject(t, toldFile(x), o, f)
		}
		l := anyEntries(r, 8)
		if r.Intn(3) > 0 {
			l = wordsSort(l)
		}
		o, f = node.PutDir(l)
		if wordsRight(l) {
			right++
			isObject(t, told(l), o, f, 3, dirForm(l...))
		} else {
			noObject(t, told(l), o, f)
		}
	}
	if right < 20000 {
		t.Errorf("just %d were right", right)
	}
}

func TestP1402AsTheWords(t *testing.T) {
	r := rand.New(rand.NewSource(1402))
	right := 0
	for range 20000 {
		l := anyEntries(r, 5)
		if r.Intn(3) > 0 {
			l = wordsSort(l)
		}
		for _, b := range [][]byte{fileForm(anyFile(r)), dirForm(l...)} {
			if r.Intn(2) == 0 { // one or two bytes are other ones
				b[r.Intn(min(len(b), 20))] = byte(r.Intn(5))
				b[r.Intn(len(b))] ^= byte(1 << r.Intn(8))
			}
			if asWords(t, cut(b), b) {
				right++
			}
		}
	}
	if right < 10000 {
		t.Errorf("just %d were right", right)
	}
}

func TestP1402AnyBytesAsTheWords(t *testing.T) {
	r := rand.New(rand.NewSource(1402))
	for range 20000 {
		b := make([]byte, r.Intn(40))
		for i := range b {
			b[i] = byte(r.Intn(5))
		}
		asWords(t, cut(b), b)
		asWords(t, cut(b), form(3, b))
		asWords(t, cut(b), form(3, num(uint64(r.Intn(3))), b))
		asWords(t, cut(b), form(3, form(3, b)))
		asWords(t, cut(b), form(3, form(3, form(2, []byte("a")), b)))
	}
}

func TestP1404AsTheWords(t *testing.T) {
	r := rand.New(rand.NewSource(1404))
	found := 0
	for range 20000 {
		l := anyEntries(r, 12)
		s := node.Sort(l)
		are(t, told(l), s, wordsSort(l)...)
		if r.Intn(3) > 0 {
			l = s
		}
		name := anyName(r)
		if len(l) > 0 && r.Intn(3) > 0 {
			name = l[r.Intn(len(l))].Name
		}
		want, is := wordsFind(l, name)
		if e, ok := node.Find(l, name); e != want || ok != is {
			t.Fatalf("%s: of %q: %q, %v", told(l), name, e.Name, ok)
		}
		if is {
			found++
		}
	}
	if found < 3000 {
		t.Errorf("just %d were found", found)
	}
}
