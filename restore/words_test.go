package restore_test

import (
	"cmp"
	"math/rand"
	"slices"
	"strings"
	"testing"

	"hayloft/api"
	"hayloft/node"
	"hayloft/restore"
	"hayloft/store"
	"hayloft/tree"
)

// as: a fault of an object that is not the first one.
func as(f api.Fault) api.Fault {
	if f == api.NotFound {
		return api.Missing
	}
	return f
}

// wordsDir: the entries of a directory, or the fault of what should be one.
func wordsDir(o *store.Store, h api.Hash) ([]node.Entry, api.Fault) {
	x, f := o.Get(h)
	if f != api.OK {
		return nil, f
	}
	l, f := node.GetDir(x)
	if f != api.OK {
		return nil, api.Corrupt
	}
	return l, api.OK
}

// wordsHead: a file, or the fault of what should be one.
func wordsHead(o *store.Store, h api.Hash) (node.File, api.Fault) {
	x, f := o.Get(h)
	if f != api.OK {
		return node.File{}, f
	}
	y, f := node.GetFile(x)
	if f != api.OK {
		return node.File{}, api.Corrupt
	}
	return y, api.OK
}

// wordsFile: what File tells by the chapter's words.
func wordsFile(o *store.Store, h api.Hash) (string, api.Fault) {
	y, f := wordsHead(o, h)
	if f != api.OK {
		return "", f
	}
	var all strings.Builder
	for _, c := range y.Chunks {
		x, f := o.Get(c)
		if f != api.OK {
			return "", as(f)
		}
		if x.Kind != 1 || len(x.Body) < 1 || len(x.Body) > 4096 {
			return "", api.Corrupt
		}
		all.Write(x.Body)
	}
	if all.Len() != y.Size {
		return "", api.Corrupt
	}
	return all.String(), api.OK
}

// place: an entry, and the path that leads to it.
type place struct {
	p string
	e node.Entry
}

// places: of these entries, in the directory of that path.
func places(up string, l []node.Entry) (out []place) {
	for _, e := range l {
		out = append(out, place{strings.TrimPrefix(up+"/"+e.Name, "/"), e})
	}
	return out
}

// wordsLeaves: what Leaves tell by the chapter's words: what is left to look at stands in a list,
// and what is in a directory ahead of all that is beside it.
func wordsLeaves(o *store.Store, h api.Hash) (out []restore.Leaf, f api.Fault) {
	l, f := wordsDir(o, h)
	todo := places("", l)
	for f == api.OK && len(todo) > 0 {
		at := todo[0]
		todo = todo[1:]
		var in []node.Entry
		var y node.File
		if at.e.Dir {
			in, f = wordsDir(o, at.e.Hash)
		} else {
			y, f = wordsHead(o, at.e.Hash)
		}
		out = append(out, restore.Leaf{Path: at.p, Dir: at.e.Dir, Hash: at.e.Hash, Size: y.Size})
		todo = slices.Concat(places(at.p, in), todo)
		if f = as(f); f == api.OK && (len(out) == 61 || strings.Count(at.p, "/") == 6) {
			f = api.Corrupt
		}
	}
	if f != api.OK {
		return nil, f
	}
	slices.SortFunc(out, func(a, b restore.Leaf) int { return cmp.Compare(a.Path, b.Path) })
	return out, api.OK
}

// wordsTree: what Restore tells by the chapter's words.
func wordsTree(o *store.Store, h api.Hash) (u tree.Tree, f api.Fault) {
	l, f := wordsLeaves(o, h)
	if f != api.OK {
		return nil, f
	}
	for _, x := range l {
		if x.Dir {
			u = append(u, dir(x.Path))
			continue
		}
		data, f := wordsFile(o, x.Hash)
		if f != api.OK {
			return nil, as(f)
		}
		u = append(u, file(x.Path, data))
	}
	return u, api.OK
}

// wordsItem: what Item tells by the chapter's words.
func wordsItem(o *store.Store, h api.Hash, p string) (api.Item, api.Fault) {
	parts := strings.Split(p, "/")
	l, f := wordsDir(o, h)
	for i, name := range parts {
		if f != api.OK {
			return api.Item{}, f
		}
		at := slices.IndexFunc(l, func(e node.Entry) bool { return e.Name == name })
		last := i == len(parts)-1
		switch {
		case at < 0:
			return api.Item{}, api.NotFound
		case last && l[at].Dir:
			return dir(p), api.OK
		case last:
			data, f := wordsFile(o, l[at].Hash)
			if f != api.OK {
				return api.Item{}, as(f)
			}
			return file(p, data), api.OK
		case !l[at].Dir:
			return api.Item{}, api.NotDir
		}
		l, f = wordsDir(o, l[at].Hash)
		f = as(f)
	}
	return api.Item{}, api.BadPath
}

// asTheWords: each call tells what the chapter's words do.
func asTheWords(t *testing.T, o *store.Store, h api.Hash, paths []string) map[api.Fault]int {
	t.Helper()
	met := map[api.Fault]int{}
	if l, f := wordsLeaves(o, h); f == api.OK {
		leaves(t, "words", o, h, l...)
	} else if got, g := restore.Leaves(o, h); g != f || got != nil {
		t.Errorf("Leaves: %s, fault %d, not %d", told(got), g, f)
	}
	u, f := wordsTree(o, h)
	if met[f]++; f == api.OK {
		restores(t, "words", o, h, u)
	} else {
		noTree(t, "words", o, h, f)
	}
	data, f := wordsFile(o, h)
	if met[f]++; f == api.OK {
		files(t, "words", o, h, data)
	} else {
		noFile(t, "words", o, h, f)
	}
	for _, p := range paths {
		x, f := wordsItem(o, h, p)
		if met[f]++; f == api.OK {
			item(t, "words", o, h, x)
		} else {
			noItem(t, "words", o, h, p, f)
		}
	}
	return met
}

// pick: one of l.
func pick[T any](r *rand.Rand, l ...T) T {
	return l[r.Intn(len(l))]
}

// anyName: one of few, so that one is often the beginning of another.
func anyName(r *rand.Rand) string {
	return pick(r, "a", "b", "a!", "a.", "a.b", "aa", "a0", "b~", "0", "...", strings.Repeat("n", 20))
}

// heap: names of objects that were put, right ones and others.
type heap struct {
	t                          *testing.T
	r                          *rand.Rand
	o                          *store.Store
	chunks, files, dirs, other []api.Hash
}

// begun: with some of each kind.
func begun(t *testing.T, r *rand.Rand) *heap {
	o := empty(t)
	b := &heap{t: t, r: r, o: o}
	for _, body := range []string{"x", "yy", "zzz", filled(1, 64), filled(2, 4096)} {
		b.chunks = append(b.chunks, chunk(t, o, body))
	}
	b.files = append(b.files, fileOf(t, o, 0), small(t, o, "x"))
	b.dirs = append(b.dirs, dirOf(t, o))
	b.other = append(b.other, gone(1), gone(2), gone(3), gone(4), gone(5), api.Hash{}, object(t, o, 1, ""), object(t, o, 2, "x"), object(t, o, 3, "x"), object(t, o, 4, "x"))
	if r.Intn(2) == 0 {
		b.other = append(b.other, spoilt(t, o, 1, "turned"), spoilt(t, o, 2, "\x03\x00\x00"), spoilt(t, o, 3, "\x03\x00\x03\x03\x00\x00"))
	}
	return b
}

// one: mostly of l, or of any kind.
func (b *heap) one(l []api.Hash, wrong int) api.Hash {
	if b.r.Intn(1000) >= wrong {
		return pick(b.r, l...)
	}
	return pick(b.r, slices.Concat(b.chunks, b.files, b.dirs, b.other)...)
}

// file: one more, mostly of the Size that its chunks have.
func (b *heap) file(wrong int) {
	var x node.File
	for range b.r.Intn(4) {
		h := b.one(b.chunks[:4], wrong)
		x.Chunks = append(x.Chunks, h)
		c, _ := b.o.Get(h)
		x.Size += len(c.Body)
	}
	if b.r.Intn(1000) < wrong {
		x.Size += b.r.Intn(5) - 2
	}
	if y, f := node.PutFile(x); f == api.OK {
		b.files = append(b.files, put(b.t, b.o, y))
	}
}

// dir: one more, of what there is.
func (b *heap) dir(wrong int) {
	var l []node.Entry
	for range b.r.Intn(5) {
		e := isFile(anyName(b.r), b.one(b.files, wrong))
		if b.r.Intn(2) == 0 {
			e = isDir(e.Name, b.one(b.dirs, wrong))
		}
		l = append(l, e)
	}
	if b.r.Intn(8) == 0 {
		l = append(l, wide(b.r.Intn(50), b.one(b.files, wrong))...)
	}
	b.dirs = append(b.dirs, dirOf(b.t, b.o, l...))
}

// paths: some, of names that there are.
func (b *heap) paths() (l []string) {
	for range 6 {
		p := anyName(b.r)
		for range b.r.Intn(6) {
			p += "/" + pick(b.r, anyName(b.r), "a", "f00")
		}
		l = append(l, p)
	}
	return l
}

func TestAsTheChapterSays(t *testing.T) {
	met := map[api.Fault]int{}
	for seed := range int64(80) {
		r := rand.New(rand.NewSource(seed))
		b := begun(t, r)
		wrong := pick(r, 0, 10, 50, 200)
		for range 30 {
			b.file(wrong)
			b.dir(wrong)
			if r.Intn(30) == 0 {
				flush(t, b.o)
			}
		}
		if r.Intn(4) == 0 {
			goesDown(t, b.o.FS())
		}
		for _, h := range slices.Concat(b.dirs, b.files, b.chunks, b.other) {
			for f, n := range asTheWords(t, b.o, h, b.paths()) {
				met[f] += n
			}
		}
		if t.Failed() {
			t.Fatalf("seed %d", seed)
		}
	}
	for _, f := range []api.Fault{api.OK, api.NotFound, api.Missing, api.Down, api.Corrupt, api.NotDir} {
		if met[f] < 50 {
			t.Errorf("fault %d was met just %d times", f, met[f])
		}
	}
}
