package restore_test

import (
	"encoding/hex"
	"fmt"
	"slices"
	"strings"
	"testing"

	"hayloft/api"
	"hayloft/ingest"
	"hayloft/node"
	"hayloft/pack"
	"hayloft/restore"
	"hayloft/simfs"
	"hayloft/store"
	"hayloft/tree"
)

// short and long: bytes that, one behind the other, are cut into chunks of as few bytes as can be, and of as many.
const (
	short = 16
	long  = 5
)

func dir(p string) api.Item {
	return api.Item{Path: p, Dir: true}
}

func file(p, data string) api.Item {
	return api.Item{Path: p, Data: []byte(data)}
}

// of: a tree of these items, as they come.
func of(l ...api.Item) tree.Tree {
	return slices.Clone(l)
}

// filled: so many bytes of that value.
func filled(c byte, n int) string {
	return strings.Repeat(string([]byte{c}), n)
}

// counted: so many bytes, no two neighbours alike; with another seed others.
func counted(seed, n int) string {
	b := make([]byte, n)
	for i := range b {
		b[i] = byte(i*i*7 + i*seed + i>>3 + seed)
	}
	return string(b)
}

// many: a right tree of n files, each another one.
func many(n int) tree.Tree {
	var t tree.Tree
	for i := range n {
		t = append(t, file(fmt.Sprintf("f%019d", i), fmt.Sprint(i)))
	}
	return t
}

// deep: a path of n parts, each of them p.
func deep(p string, n int) string {
	return strings.TrimSuffix(strings.Repeat(p+"/", n), "/")
}

// chain: the directories of deep(p, n), and they alone: a right tree, if n is not too many.
func chain(p string, n int) tree.Tree {
	var t tree.Tree
	for i := 1; i <= n; i++ {
		t = append(t, dir(deep(p, i)))
	}
	return t
}

// wood: a tree with files and directories, empty ones too, some twice, whose order by bytes is
// not the one by parts: ! and . are below the /.
func wood() tree.Tree {
	return of(
		dir("a"),
		file("a!", "not in a"),
		dir("a.b"),
		file("a.b/c", ""),
		dir("a/b"),
		dir("a/b/c"),
		file("a/b/c/d", "deep"),
		file("a/b0", "beside a/b"),
		file("a/x", "x"),
		dir("a0"),
		file("ab", "behind a"),
		dir("e"),
		file("f", counted(1, 200)),
		dir("g"),
		file("g/h", counted(1, 200)),
	)
}

// rightTrees: at the edges, by what they are.
func rightTrees() map[string]tree.Tree {
	m := map[string]tree.Tree{
		"nil":                     nil,
		"empty":                   {},
		"wood":                    wood(),
		"a file":                  of(file("a", "x")),
		"a directory":             of(dir("a")),
		"directories of no item":  of(dir("a"), dir("a/b"), dir("a/c"), dir("b")),
		"6 deep":                  chain("d", 6),
		"6 deep, names of 20":     chain(strings.Repeat("n", 20), 6),
		"a file 6 deep":           append(chain("d", 5), file(deep("d", 6), "x")),
		"a file beside each":      of(dir("a"), dir("a/a"), dir("a/a/a"), file("a/a/a/f", "3"), file("a/a/f", "2"), file("a/f", "1"), file("f", "0")),
		"a and a.b":               of(dir("a"), dir("a.b"), file("a.b/x", "in a.b"), file("a/x", "in a"), file("a/y", "in a")),
		"a, a.b and a0":           of(dir("a"), file("a.b", "1"), file("a/x", "2"), file("a0", "3")),
		"a/a and a/a!":            of(dir("a"), dir("a/a"), dir("a/a!"), file("a/a!/x", "1"), file("a/a/x", "2"), file("a/a0", "3")),
		"a file twice":            of(file("a", "twice"), file("b", "twice")),
		"a file twice, apart":     of(dir("a"), file("a/b", "twice"), dir("c"), file("c/d", "twice")),
		"a directory twice":       of(dir("a"), file("a/x", "1"), dir("b"), file("b/x", "1")),
		"a directory twice, deep": of(dir("a"), dir("a/b"), file("a/b/x", "1"), dir("b"), file("b/x", "1")),
		"empty files":             of(file("a", ""), file("b", "")),
		"a chunk in two files":    of(file("a", filled(long, 64)), file("b", filled(long, 65))),
		"60 files":                many(60),
		"60 directories":          append(chain("d", 6), of(manyDirs(54)...)...),
		"60, and a full file":     append(many(59), file("z", filled(short, 2000))),
		"capitals, points":        of(file("...", "1"), file("..a", "2"), dir("B"), file("B/~", "3"), file("a", "4"), file("~", "5")),
	}
	for n, data := range sizes() {
		m["a file of "+n] = of(file("f", data))
		m["in a directory a file of "+n] = of(dir("a"), file("a/f", data))
	}
	return m
}

// manyDirs: n empty directories, behind those of chain("d", 6).
func manyDirs(n int) tree.Tree {
	var t tree.Tree
	for i := range n {
		t = append(t, dir(fmt.Sprintf("e%02d", i)))
	}
	return t
}

// sizes: data of files, as many bytes as a chunk's edges and a file's are, in chunks of each size.
func sizes() map[string]string {
	m := map[string]string{}
	for _, n := range []int{0, 1, 2, 15, 16, 17, 31, 32, 33, 48, 63, 64, 65, 80, 127, 128, 129, 192, 1984, 1999, 2000} {
		m[fmt.Sprint(n, ", short chunks")] = filled(short, n)
		m[fmt.Sprint(n, ", long chunks")] = filled(long, n)
		m[fmt.Sprint(n, ", others")] = counted(3, n)
	}
	return m
}

// fresh: a file system of that room.
func fresh(t *testing.T, room int) *simfs.FS {
	t.Helper()
	s, f := simfs.New(room)
	ok(t, f)
	return s
}

// open: a store over s.
func open(t *testing.T, s *simfs.FS) *store.Store {
	t.Helper()
	o, f := store.Open(s)
	ok(t, f)
	return o
}

// empty: a store with no object, and much room.
func empty(t *testing.T) *store.Store {
	t.Helper()
	return open(t, fresh(t, api.MaxDisk))
}

// goesDown: the next step finds the file system down.
func goesDown(t *testing.T, s *simfs.FS) {
	t.Helper()
	ok(t, s.Arm(0))
	if s.SyncDir() != api.Down || !s.Down() {
		t.Fatal("not down")
	}
}

// ok: none of the calls has a fault.
func ok(t *testing.T, l ...api.Fault) {
	t.Helper()
	for i, f := range l {
		if f != api.OK {
			t.Fatalf("call %d: fault %d", i, f)
		}
	}
}

// flush: nothing waits any more.
func flush(t *testing.T, o *store.Store) {
	t.Helper()
	_, f := o.Flush()
	ok(t, f)
}

// text: of a hash.
func text(h api.Hash) string {
	return hex.EncodeToString(h[:])
}

// toldTree: paths, a / behind those of directories, and how many bytes there are.
func toldTree(l tree.Tree) string {
	var b strings.Builder
	for i, x := range l {
		if i == 60 {
			b.WriteString(".. ")
			break
		}
		b.WriteString(x.Path)
		if x.Dir {
			b.WriteString("/")
		}
		fmt.Fprintf(&b, ":%d ", len(x.Data))
	}
	return fmt.Sprintf("%s(%d)", b.String(), len(l))
}

// shapes: at which places objects may stand ahead of a call, by what they are; each hands out the store to ask.
func shapes(t *testing.T) map[string]func(*store.Store) *store.Store {
	return map[string]func(*store.Store) *store.Store{
		"waiting":      func(o *store.Store) *store.Store { return o },
		"flushed":      func(o *store.Store) *store.Store { flush(t, o); return o },
		"another Open": func(o *store.Store) *store.Store { flush(t, o); return open(t, o.FS()) },
	}
}

// nobody: no store, and one that no Open made, which is as good as none.
func nobody() map[string]*store.Store {
	return map[string]*store.Store{"nil": nil, "zero": new(store.Store)}
}

// root: the name under which u stands in o.
func root(t *testing.T, o *store.Store, u tree.Tree) api.Hash {
	t.Helper()
	h, _, f := ingest.Ingest(o, u)
	ok(t, f)
	return h
}

// put: the name of x, which is there from now on.
func put(t *testing.T, o *store.Store, x store.Object) api.Hash {
	t.Helper()
	h, f := o.Put(x)
	ok(t, f)
	return h
}

// object: one of that kind and body, any there can be.
func object(t *testing.T, o *store.Store, kind int, body string) api.Hash {
	t.Helper()
	return put(t, o, store.Object{Kind: kind, Body: []byte(body)})
}

// chunk: one of these bytes.
func chunk(t *testing.T, o *store.Store, body string) api.Hash {
	t.Helper()
	return object(t, o, 1, body)
}

// fileOf: a file of that Size, and of these chunks, which may be others than such a file has.
func fileOf(t *testing.T, o *store.Store, size int, l ...api.Hash) api.Hash {
	t.Helper()
	x, f := node.PutFile(node.File{Size: size, Chunks: l})
	ok(t, f)
	return put(t, o, x)
}

// small: a file of one chunk.
func small(t *testing.T, o *store.Store, data string) api.Hash {
	t.Helper()
	return fileOf(t, o, len(data), chunk(t, o, data))
}

// isDir and isFile: an entry of that name, and hash.
func isDir(name string, h api.Hash) node.Entry {
	return node.Entry{Name: name, Dir: true, Hash: h}
}

func isFile(name string, h api.Hash) node.Entry {
	return node.Entry{Name: name, Hash: h}
}

// dirOf: a directory of these entries.
func dirOf(t *testing.T, o *store.Store, l ...node.Entry) api.Hash {
	t.Helper()
	x, f := node.PutDir(node.Sort(l))
	ok(t, f)
	return put(t, o, x)
}

// gone: a name of no object that any store has, one for each number.
func gone(n int) api.Hash {
	return api.Hash{0xEE, byte(n >> 8), byte(n)}
}

// spoilt: the name of an object of that kind and body, which is new, and whose record in a pack is turned.
func spoilt(t *testing.T, o *store.Store, kind int, body string) api.Hash {
	t.Helper()
	flush(t, o)
	ahead := len(pack.IDs(o.FS()))
	h := object(t, o, kind, body)
	flush(t, o)
	ids := pack.IDs(o.FS())
	if len(ids) != ahead+1 {
		t.Fatalf("%d packs, not %d", len(ids), ahead+1)
	}
	name := pack.Name(ids[ahead])
	n, f := o.FS().Size(name)
	ok(t, f, o.FS().Flip(name, n-1, 1))
	if _, f := o.Get(h); f != api.Corrupt {
		t.Fatalf("not spoilt: fault %d", f)
	}
	return h
}

// leaf: as Leaves tells it.
func leaf(p string, h api.Hash, size int) restore.Leaf {
	return restore.Leaf{Path: p, Hash: h, Size: size}
}

func leafDir(p string, h api.Hash) restore.Leaf {
	return restore.Leaf{Path: p, Dir: true, Hash: h}
}

// leaves: Leaves are just these.
func leaves(t *testing.T, what string, o *store.Store, h api.Hash, want ...restore.Leaf) {
	t.Helper()
	l, f := restore.Leaves(o, h)
	if f != api.OK || !slices.Equal(l, want) {
		t.Errorf("%s: Leaves: %s, fault %d, not %s", what, told(l), f, told(want))
	}
}

// files: File tells just these bytes.
func files(t *testing.T, what string, o *store.Store, h api.Hash, want string) {
	t.Helper()
	b, f := restore.File(o, h)
	if f != api.OK || string(b) != want {
		t.Errorf("%s: File: %q, fault %d, not %q", what, b, f, want)
	}
}

// restores: Restore tells that tree.
func restores(t *testing.T, what string, o *store.Store, h api.Hash, want tree.Tree) {
	t.Helper()
	u, f := restore.Restore(o, h)
	if f != api.OK || !tree.Same(u, want) {
		t.Errorf("%s: Restore: %s, fault %d, not %s", what, toldTree(u), f, toldTree(want))
	}
}

// item: Item tells that one.
func item(t *testing.T, what string, o *store.Store, h api.Hash, want api.Item) {
	t.Helper()
	x, f := restore.Item(o, h, want.Path)
	if f != api.OK || !tree.Same(of(x), of(want)) {
		t.Errorf("%s: Item %q: %s, fault %d, not %s", what, want.Path, toldTree(of(x)), f, toldTree(of(want)))
	}
}

// noLeaves: Leaves have that fault, and nothing beside it; Restore has it too, since it is theirs first.
func noLeaves(t *testing.T, what string, o *store.Store, h api.Hash, want api.Fault) {
	t.Helper()
	l, f := restore.Leaves(o, h)
	if f != want || l != nil {
		t.Errorf("%s: Leaves: %s, fault %d, not fault %d alone", what, told(l), f, want)
	}
	noTree(t, what, o, h, want)
}

// noTree: Restore has that fault, and nothing beside it.
func noTree(t *testing.T, what string, o *store.Store, h api.Hash, want api.Fault) {
	t.Helper()
	u, f := restore.Restore(o, h)
	if f != want || u != nil {
		t.Errorf("%s: Restore: %s, fault %d, not fault %d alone", what, toldTree(u), f, want)
	}
}

// noFile: File has that fault, and nothing beside it.
func noFile(t *testing.T, what string, o *store.Store, h api.Hash, want api.Fault) {
	t.Helper()
	b, f := restore.File(o, h)
	if f != want || b != nil {
		t.Errorf("%s: File: %q, fault %d, not fault %d alone", what, b, f, want)
	}
}

// noItem: Item has that fault, and nothing beside it.
func noItem(t *testing.T, what string, o *store.Store, h api.Hash, p string, want api.Fault) {
	t.Helper()
	x, f := restore.Item(o, h, p)
	if f != want || x.Path != "" || x.Dir || x.Data != nil {
		t.Errorf("%s: Item %q: %s, fault %d, not fault %d alone", what, p, toldTree(of(x)), f, want)
	}
}

// told: paths, a / behind those of directories, how each hash begins, and Sizes.
func told(l []restore.Leaf) string {
	var b strings.Builder
	for _, x := range l {
		b.WriteString(x.Path)
		if x.Dir {
			b.WriteString("/")
		}
		fmt.Fprintf(&b, ":%s:%d ", text(x.Hash)[:4], x.Size)
	}
	return fmt.Sprintf("%s(%d)", b.String(), len(l))
}
