package ingest_test

import (
	"crypto/sha256"
	"encoding/binary"
	"math/rand"
	"slices"
	"strings"
	"testing"

	"hayloft/api"
	"hayloft/gear"
	"hayloft/ingest"
	"hayloft/store"
	"hayloft/tree"
)

// named: an object's name by the words of the store's chapter.
func named(x store.Object) api.Hash {
	return sha256.Sum256(append([]byte{byte(x.Kind)}, x.Body...))
}

// form: a tag, how many bytes there are, and they.
func form(tag byte, b []byte) []byte {
	return append([]byte{tag, byte(len(b) >> 8), byte(len(b))}, b...)
}

// num: a number's form.
func num(n int) []byte {
	b := binary.BigEndian.AppendUint64(nil, uint64(n))
	for len(b) > 0 && b[0] == 0 {
		b = b[1:]
	}
	return form(1, b)
}

// nameOf: the form of the name of an object.
func nameOf(x store.Object) []byte {
	h := named(x)
	return form(2, h[:])
}

// wordsChunks: by the words of the chunker's chapter, and its usual rule.
func wordsChunks(b []byte) (l [][]byte) {
	g := gear.New(0)
	for len(b) > 0 {
		n := min(len(b), 64)
		for i := 16; i < n; i++ {
			if g.Hash(b[:i])&gear.Mask(32) == 0 {
				n = i
			}
		}
		l = append(l, b[:n])
		b = b[n:]
	}
	return l
}

// wordsFile: the objects of a file.
func wordsFile(data []byte) (out []store.Object) {
	var list []byte
	for _, b := range wordsChunks(data) {
		x := store.Object{Kind: 1, Body: b}
		out = append(out, x)
		list = append(list, nameOf(x)...)
	}
	body := append(num(len(data)), form(3, list)...)
	return append(out, store.Object{Kind: 2, Body: form(3, body)})
}

// wordsDir: the objects of the directory p of a right tree; the root is "".
func wordsDir(u tree.Tree, p string) (out []store.Object) {
	items := map[string]api.Item{}
	for _, x := range u {
		i := strings.LastIndex(x.Path, "/")
		if x.Path[:max(i, 0)] == p {
			items[x.Path[i+1:]] = x
		}
	}
	var parts []string
	for name := range items {
		parts = append(parts, name)
	}
	slices.Sort(parts)
	var list []byte
	for _, name := range parts {
		x := items[name]
		l, is := wordsFile(x.Data), 0
		if x.Dir {
			l, is = wordsDir(u, x.Path), 1
		}
		out = append(out, l...)
		entry := slices.Concat(form(2, []byte(name)), num(is), nameOf(l[len(l)-1]))
		list = append(list, form(3, entry)...)
	}
	return append(out, store.Object{Kind: 3, Body: form(3, list)})
}

// wordsObjects: those of a right tree.
func wordsObjects(u tree.Tree) []store.Object {
	return wordsDir(u, "")
}

// wordsRoot: the name of the last one.
func wordsRoot(u tree.Tree) api.Hash {
	l := wordsObjects(u)
	return named(l[len(l)-1])
}

// wordsCount: of a right tree all but New.
func wordsCount(u tree.Tree) ingest.Count {
	n := ingest.Count{Dirs: 1}
	for _, x := range u {
		if x.Dir {
			n.Dirs++
		} else {
			n.Files++
			n.Chunks += len(wordsChunks(x.Data))
		}
	}
	return n
}

// pick: one of l.
func pick[T any](r *rand.Rand, l ...T) T {
	return l[r.Intn(len(l))]
}

// anyName: one of few, so that one is often the beginning of another.
func anyName(r *rand.Rand) string {
	return pick(r, "a", "b", "a!", "a.", "a.b", "aa", "a0", "b~", "0", "...", strings.Repeat("n", 20))
}

// anyData: of few bytes, at an edge, or of any bytes; often what another one is too.
func anyData(r *rand.Rand) string {
	n := pick(r, 0, 1, 2, 15, 16, 17, 63, 64, 65, 100, r.Intn(300), r.Intn(2001))
	return pick(r, filled(short, n), filled(long, n), filled(byte(r.Intn(3)), n), counted(r.Intn(3), n))
}

// anyTree: a right one, of at most so many items.
func anyTree(r *rand.Rand, most int) tree.Tree {
	var u tree.Tree
	up := []string{""}
	for range most {
		p := strings.TrimPrefix(pick(r, up...)+"/"+anyName(r), "/")
		if r.Intn(3) == 0 {
			if v, f := tree.Mkdir(u, p); f == api.OK {
				u, up = v, append(up, p)
			}
		} else if v, f := tree.Write(u, p, []byte(anyData(r))); f == api.OK {
			u = v
		}
	}
	return u
}

// edited: u with one thing done to it, or as it was, where that can't be.
func edited(r *rand.Rand, u tree.Tree) tree.Tree {
	p, q := anyName(r), anyName(r)
	if len(u) > 0 {
		p = pick(r, u...).Path
	}
	v, f := u, api.OK
	switch r.Intn(5) {
	case 0:
		v, f = tree.Write(u, p, []byte(anyData(r)))
	case 1:
		v, f = tree.Remove(u, p, true)
	case 2:
		v, f = tree.Rename(u, p, q)
	case 3:
		v, f = tree.Mkdir(u, p+"/"+q)
	case 4:
		v, f = tree.Write(u, p+"/"+q, []byte(anyData(r)))
	}
	if f != api.OK {
		return u
	}
	return v
}

// both: a store, and all objects that it has by the chapter's words.
type both struct {
	t   *testing.T
	r   *rand.Rand
	o   *store.Store
	has []store.Object
}

// took: l was put; so many of it are new.
func (b *both) took(l []store.Object) int {
	fresh := without(l, b.has...)
	b.has = append(b.has, fresh...)
	return len(fresh)
}

// call: one of those that the chapter lists, or one of the store's.
func (b *both) call(u tree.Tree) {
	b.t.Helper()
	pending := b.o.Pending()
	switch b.r.Intn(8) {
	case 0, 1, 2:
		fresh := b.took(wordsObjects(u))
		ingests(b.t, toldTree(u), b.o, u, fresh)
		pending += fresh
	case 3:
		data := anyData(b.r)
		pending += b.took(wordsFile([]byte(data)))
		files(b.t, "any data", b.o, data)
	case 4:
		makes(b.t, toldTree(u), b.o, u, wordsObjects(u)...)
	case 5:
		flush(b.t, b.o)
		pending = 0
	case 6:
		flush(b.t, b.o)
		b.o = open(b.t, b.o.FS())
		pending = 0
	case 7:
		fails(b.t, "a wrong tree", b.o, append(slices.Clone(u), file("", "")), api.BadArg)
	}
	if b.o.Pending() != pending {
		b.t.Errorf("%d objects wait, not %d", b.o.Pending(), pending)
	}
}

func TestAsTheChapterSays(t *testing.T) {
	for seed := range int64(60) {
		r := rand.New(rand.NewSource(seed))
		b := &both{t: t, r: r, o: empty(t)}
		u := anyTree(r, pick(r, 0, 1, 5, 20, 90))
		for range 12 {
			b.call(u)
			u = edited(r, u)
		}
		holds(t, "all", b.o, b.has...)
		if t.Failed() {
			t.Fatalf("seed %d", seed)
		}
	}
}
