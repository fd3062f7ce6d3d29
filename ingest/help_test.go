package ingest_test

import (
	"bytes"
	"encoding/hex"
	"fmt"
	"slices"
	"strings"
	"testing"

	"hayloft/api"
	"hayloft/crc"
	"hayloft/ingest"
	"hayloft/pack"
	"hayloft/simfs"
	"hayloft/store"
	"hayloft/tree"
)

// short and long: bytes that, one behind the other, are cut into chunks of as few bytes as can be, and of as many.
const (
	short = 16
	long  = 5
)

func dir(p string) api.Item {
	return api.Item{Path: p, Dir: true}
}

func file(p, data string) api.Item {
	return api.Item{Path: p, Data: []byte(data)}
}

// of: a tree of these items, as they come.
func of(l ...api.Item) tree.Tree {
	return slices.Clone(l)
}

// filled: so many bytes of that value.
func filled(c byte, n int) string {
	return strings.Repeat(string([]byte{c}), n)
}

// counted: so many bytes, no two neighbours alike; with another seed others.
func counted(seed, n int) string {
	b := make([]byte, n)
	for i := range b {
		b[i] = byte(i*i*7 + i*seed + i>>3 + seed)
	}
	return string(b)
}

// many: a right tree of n files, each another one.
func many(n int) tree.Tree {
	var t tree.Tree
	for i := range n {
		t = append(t, file(fmt.Sprintf("f%019d", i), fmt.Sprint(i)))
	}
	return t
}

// deep: a path of n parts, each of them p.
func deep(p string, n int) string {
	return strings.TrimSuffix(strings.Repeat(p+"/", n), "/")
}

// chain: the directories of deep(p, n), and they alone: a right tree, if n is not too many.
func chain(p string, n int) tree.Tree {
	var t tree.Tree
	for i := 1; i <= n; i++ {
		t = append(t, dir(deep(p, i)))
	}
	return t
}

// wood: a tree with files and directories, empty ones too, some twice, whose order by bytes is
// not the one by parts: ! and . are below the /.
func wood() tree.Tree {
	return of(
		dir("a"),
		file("a!", "not in a"),
		dir("a.b"),
		file("a.b/c", ""),
		dir("a/b"),
		dir("a/b/c"),
		file("a/b/c/d", "deep"),
		file("a/b0", "beside a/b"),
		file("a/x", "x"),
		dir("a0"),
		file("ab", "behind a"),
		dir("e"),
		file("f", counted(1, 200)),
		dir("g"),
		file("g/h", counted(1, 200)),
	)
}

// rightTrees: at the edges, by what they are.
func rightTrees() map[string]tree.Tree {
	m := map[string]tree.Tree{
		"nil":                     nil,
		"empty":                   {},
		"wood":                    wood(),
		"a file":                  of(file("a", "x")),
		"a directory":             of(dir("a")),
		"directories of no item":  of(dir("a"), dir("a/b"), dir("a/c"), dir("b")),
		"6 deep":                  chain("d", 6),
		"6 deep, names of 20":     chain(strings.Repeat("n", 20), 6),
		"a file 6 deep":           append(chain("d", 5), file(deep("d", 6), "x")),
		"a file beside each":      of(dir("a"), dir("a/a"), dir("a/a/a"), file("a/a/a/f", "3"), file("a/a/f", "2"), file("a/f", "1"), file("f", "0")),
		"a and a.b":               of(dir("a"), dir("a.b"), file("a.b/x", "in a.b"), file("a/x", "in a"), file("a/y", "in a")),
		"a, a.b and a0":           of(dir("a"), file("a.b", "1"), file("a/x", "2"), file("a0", "3")),
		"a/a and a/a!":            of(dir("a"), dir("a/a"), dir("a/a!"), file("a/a!/x", "1"), file("a/a/x", "2"), file("a/a0", "3")),
		"a file twice":            of(file("a", "twice"), file("b", "twice")),
		"a file twice, apart":     of(dir("a"), file("a/b", "twice"), dir("c"), file("c/d", "twice")),
		"a directory twice":       of(dir("a"), file("a/x", "1"), dir("b"), file("b/x", "1")),
		"a directory twice, deep": of(dir("a"), dir("a/b"), file("a/b/x", "1"), dir("b"), file("b/x", "1")),
		"empty files":             of(file("a", ""), file("b", "")),
		"a chunk in two files":    of(file("a", filled(long, 64)), file("b", filled(long, 65))),
		"60 files":                many(60),
		"60 directories":          append(chain("d", 6), of(manyDirs(54)...)...),
		"60, and a full file":     append(many(59), file("z", filled(short, 2000))),
		"capitals, points":        of(file("...", "1"), file("..a", "2"), dir("B"), file("B/~", "3"), file("a", "4"), file("~", "5")),
	}
	for n, data := range sizes() {
		m["a file of "+n] = of(file("f", data))
		m["in a directory a file of "+n] = of(dir("a"), file("a/f", data))
	}
	return m
}

// manyDirs: n empty directories, behind those of chain("d", 6).
func manyDirs(n int) tree.Tree {
	var t tree.Tree
	for i := range n {
		t = append(t, dir(fmt.Sprintf("e%02d", i)))
	}
	return t
}

// sizes: data of files, as many bytes as a chunk's edges and a file's are, in chunks of each size.
func sizes() map[string]string {
	m := map[string]string{}
	for _, n := range []int{0, 1, 2, 15, 16, 17, 31, 32, 33, 48, 63, 64, 65, 80, 127, 128, 129, 192, 1984, 1999, 2000} {
		m[fmt.Sprint(n, ", short chunks")] = filled(short, n)
		m[fmt.Sprint(n, ", long chunks")] = filled(long, n)
		m[fmt.Sprint(n, ", others")] = counted(3, n)
	}
	return m
}

// wrongTrees: each of them breaks one word of what a right tree is.
func wrongTrees() map[string]tree.Tree {
	return map[string]tree.Tree{
		"61 items":                     many(61),
		"70000 items":                  make(tree.Tree, 70000),
		"no path":                      of(file("", "")),
		"no path, a directory":         of(dir("")),
		"the zero item, and another":   of(api.Item{}, file("a", "")),
		"a / ahead":                    of(file("/a", "")),
		"a / behind":                   of(dir("a"), file("a/", "")),
		"a / twice":                    of(dir("a"), file("a//b", "")),
		"a part .":                     of(dir("a"), file("a/.", "")),
		"a part ..":                    of(file("..", "")),
		"a blank":                      of(file("a b", "")),
		"a byte 7F":                    of(file("a\x7f", "")),
		"no ASCII":                     of(file("é", "")),
		"a name of 21":                 of(file(strings.Repeat("n", 21), "")),
		"7 parts":                      chain("d", 7),
		"a file of 7 parts":            append(chain("d", 6), file(deep("d", 7), "x")),
		"falling":                      of(file("b", ""), file("a", "")),
		"falling at the end":           of(file("a", ""), file("c", ""), file("b", "")),
		"a path twice":                 of(file("a", ""), file("a", "")),
		"a file and a directory":       of(file("a", ""), dir("a")),
		"a directory twice":            of(dir("a"), dir("a"), file("a/b", "")),
		"by parts, not by bytes":       of(dir("a"), file("a/b", ""), file("a!", "")),
		"a directory behind its file":  of(file("a/b", ""), dir("a")),
		"a directory not there":        of(file("a/b", "")),
		"a directory far up not there": of(dir("a/b"), file("a/b/c", "")),
		"only one far up there":        of(dir("a"), file("a/b/c", "")),
		"only one beside it there":     of(dir("a"), dir("ab"), file("b/c", "")),
		"a directory that is a file":   of(file("a", ""), file("a/b", "")),
		"a directory within a file":    of(file("a", ""), dir("a/b")),
		"a directory with Data":        of(dir("a"), api.Item{Path: "b", Dir: true, Data: []byte{0}}),
		"a file of 2001 bytes":         of(file("a", "ahead"), file("b", filled(long, 2001))),
		"wrong in the midst":           of(file("a", "ahead"), file("b b", "wrong"), file("c", "behind")),
	}
}

// fresh: a file system of that room.
func fresh(t *testing.T, room int) *simfs.FS {
	t.Helper()
	s, f := simfs.New(room)
	ok(t, f)
	return s
}

// open: a store over s.
func open(t *testing.T, s *simfs.FS) *store.Store {
	t.Helper()
	o, f := store.Open(s)
	ok(t, f)
	return o
}

// empty: a store with no object, and much room.
func empty(t *testing.T) *store.Store {
	t.Helper()
	return open(t, fresh(t, api.MaxDisk))
}

// goesDown: the next step finds the file system down.
func goesDown(t *testing.T, s *simfs.FS) {
	t.Helper()
	ok(t, s.Arm(0))
	if s.SyncDir() != api.Down || !s.Down() {
		t.Fatal("not down")
	}
}

// ok: none of the calls has a fault.
func ok(t *testing.T, l ...api.Fault) {
	t.Helper()
	for i, f := range l {
		if f != api.OK {
			t.Fatalf("call %d: fault %d", i, f)
		}
	}
}

// puts: each of l is put.
func puts(t *testing.T, o *store.Store, l ...store.Object) {
	t.Helper()
	for _, x := range l {
		_, f := o.Put(x)
		ok(t, f)
	}
}

// flush: nothing waits any more.
func flush(t *testing.T, o *store.Store) {
	t.Helper()
	_, f := o.Flush()
	ok(t, f)
}

// alike: whether both are just the same objects, in order.
func alike(a, b []store.Object) bool {
	return slices.EqualFunc(a, b, func(x, y store.Object) bool {
		return x.Kind == y.Kind && bytes.Equal(x.Body, y.Body)
	})
}

// makes: Objects are just these.
func makes(t *testing.T, what string, o *store.Store, u tree.Tree, want ...store.Object) {
	t.Helper()
	l, f := ingest.Objects(o, u)
	if f != api.OK || !alike(l, want) {
		t.Errorf("%s: Objects: %s, fault %d, not %s", what, told(l), f, told(want))
	}
}

// ingests: Ingest tells the root by the chapter's words, and that many objects that are new.
func ingests(t *testing.T, what string, o *store.Store, u tree.Tree, fresh int) {
	t.Helper()
	want, n := wordsCount(u), wordsRoot(u)
	want.New = fresh
	h, c, f := ingest.Ingest(o, u)
	if f != api.OK || h != n || c != want {
		t.Errorf("%s: Ingest: %s, %v, fault %d, not %s, %v", what, text(h), c, f, text(n), want)
	}
}

// files: File tells the name of the file by the chapter's words.
func files(t *testing.T, what string, o *store.Store, data string) {
	t.Helper()
	l := wordsFile([]byte(data))
	h, f := ingest.File(o, []byte(data))
	if want := named(l[len(l)-1]); f != api.OK || h != want {
		t.Errorf("%s: File: %s, fault %d, not %s", what, text(h), f, text(want))
	}
}

// fails: Objects and Ingest have that fault, and nothing beside it.
func fails(t *testing.T, what string, o *store.Store, u tree.Tree, want api.Fault) {
	t.Helper()
	l, f := ingest.Objects(o, u)
	if f != want || l != nil {
		t.Errorf("%s: Objects: %s, fault %d, not fault %d alone", what, told(l), f, want)
	}
	h, n, f := ingest.Ingest(o, u)
	if f != want || h != (api.Hash{}) || n != (ingest.Count{}) {
		t.Errorf("%s: Ingest: %s, %v, fault %d, not fault %d alone", what, text(h), n, f, want)
	}
}

// noFile: File has that fault, and nothing beside it.
func noFile(t *testing.T, what string, o *store.Store, data []byte, want api.Fault) {
	t.Helper()
	h, f := ingest.File(o, data)
	if f != want || h != (api.Hash{}) {
		t.Errorf("%s: File: %s, fault %d, not fault %d alone", what, text(h), f, want)
	}
}

// waits: just these objects wait, in that order; nothing has waited ahead. The store is flushed.
func waits(t *testing.T, what string, o *store.Store, want ...store.Object) {
	t.Helper()
	if o.Pending() != len(want) {
		t.Errorf("%s: %d objects wait, not %d", what, o.Pending(), len(want))
	}
	ahead := len(laid(t, o))
	flush(t, o)
	if got := laid(t, o)[ahead:]; !alike(got, want) {
		t.Errorf("%s: %s was laid, not %s", what, told(got), told(want))
	}
}

// laid: the objects in packs, pack by pack, in order.
func laid(t *testing.T, o *store.Store) []store.Object {
	t.Helper()
	var out []store.Object
	for _, id := range pack.IDs(o.FS()) {
		l, f := pack.Load(o.FS(), crc.New(), id)
		ok(t, f)
		for _, x := range l {
			out = append(out, store.Object{Kind: x.R.Kind, Body: x.R.Body})
		}
	}
	return out
}

// holds: the store has just these objects, and gets each.
func holds(t *testing.T, what string, o *store.Store, l ...store.Object) {
	t.Helper()
	if got := o.Names(); !slices.Equal(got, names(l)) {
		t.Errorf("%s: %d objects are there, not %d, or others", what, len(got), len(names(l)))
	}
	for _, want := range l {
		x, f := o.Get(named(want))
		if f != api.OK || !alike([]store.Object{x}, []store.Object{want}) {
			t.Errorf("%s: fault %d of an object, or another one", what, f)
		}
	}
}

// names: of the objects, rising, each once.
func names(l []store.Object) []api.Hash {
	var out []api.Hash
	for _, x := range l {
		out = append(out, named(x))
	}
	slices.SortFunc(out, func(a, b api.Hash) int { return bytes.Compare(a[:], b[:]) })
	return slices.Compact(out)
}

// once: of each object the first one.
func once(l []store.Object) []store.Object {
	return without(l)
}

// without: of each object the first one, but none of those of gone.
func without(l []store.Object, gone ...store.Object) []store.Object {
	met := map[api.Hash]int{}
	for _, x := range gone {
		met[named(x)]++
	}
	var out []store.Object
	for _, x := range l {
		if h := named(x); met[h] == 0 {
			met[h]++
			out = append(out, x)
		}
	}
	return out
}

// told: kinds of objects and how many bytes each has.
func told(l []store.Object) string {
	var b strings.Builder
	for i, x := range l {
		if i == 40 {
			b.WriteString(".. ")
			break
		}
		fmt.Fprintf(&b, "%d:%d ", x.Kind, len(x.Body))
	}
	return fmt.Sprintf("%s(%d)", b.String(), len(l))
}

// text: of a hash.
func text(h api.Hash) string {
	return hex.EncodeToString(h[:])
}

// toldTree: paths, a / behind those of directories, and how many bytes there are.
func toldTree(l tree.Tree) string {
	var b strings.Builder
	for i, x := range l {
		if i == 60 {
			b.WriteString(".. ")
			break
		}
		b.WriteString(x.Path)
		if x.Dir {
			b.WriteString("/")
		}
		fmt.Fprintf(&b, ":%d ", len(x.Data))
	}
	return fmt.Sprintf("%s(%d)", b.String(), len(l))
}

// parts: of a path.
func parts(p string) []string {
	return strings.Split(p, "/")
}
