package restore

import (
	"cmp"
	"slices"
	"strings"

	"hayloft/api"
	"hayloft/node"
	"hayloft/store"
	"hayloft/tree"
)

// walker goes from object to object, and panics with the fault of the first that is wrong, so
// that each of its methods can go by what the ones below it tell.
type walker struct {
	get func(api.Hash) (store.Object, api.Fault)
}

// walked: what a walk through o tells, or the fault with which it panics, alone. A store that is
// on no file system is as good as none.
func walked[T any](o *store.Store, walk func(walker) T) (x T, f api.Fault) {
	if o.FS() == nil {
		return x, api.Nil
	}
	defer func() {
		if wrong := recover(); wrong != nil {
			f = wrong.(api.Fault)
		}
	}()
	return walk(walker{get: o.Get}), api.OK
}

// demand ends the walk, unless what was got is what it must be.
func demand(right bool) {
	if !right {
		panic(api.Corrupt)
	}
}

// object: the one of that name; absent: the fault if it is not there.
func (w walker) object(h api.Hash, absent api.Fault) store.Object {
	x, f := w.get(h)
	switch f {
	case api.OK:
		return x
	case api.NotFound:
		panic(absent)
	}
	panic(f)
}

// dir: the entries of a directory.
func (w walker) dir(h api.Hash, absent api.Fault) []node.Entry {
	l, f := node.GetDir(w.object(h, absent))
	demand(f == api.OK)
	return l
}

// file: how many bytes it has, and in which chunks.
func (w walker) file(h api.Hash, absent api.Fault) node.File {
	x, f := node.GetFile(w.object(h, absent))
	demand(f == api.OK)
	return x
}

// chunk: its bytes.
func (w walker) chunk(h api.Hash) []byte {
	x := w.object(h, api.Missing)
	want, f := node.Chunk(x.Body)
	demand(f == api.OK && x.Kind == want.Kind)
	return x.Body
}

// bytes: those of all chunks of a file, one behind the other.
func (w walker) bytes(h api.Hash, absent api.Fault) []byte {
	x := w.file(h, absent)
	var b []byte
	for _, c := range x.Chunks {
		b = append(b, w.chunk(c)...)
	}
	demand(len(b) == x.Size)
	return b
}

// leaves: of root, by paths, which is not the order in which they are met: a.b is met behind all
// that is in a, and a/b stands behind it.
func (w walker) leaves(root api.Hash) []Leaf {
	l := w.below(nil, w.dir(root, api.NotFound), "")
	slices.SortFunc(l, func(a, b Leaf) int { return cmp.Compare(a.Path, b.Path) })
	return l
}

// below: l, and behind it the leaves of these entries; up: what their paths begin with.
func (w walker) below(l []Leaf, entries []node.Entry, up string) []Leaf {
	for _, e := range entries {
		x := Leaf{Path: up + e.Name, Dir: e.Dir, Hash: e.Hash}
		var in []node.Entry
		if e.Dir {
			in = w.dir(e.Hash, api.Missing)
		} else {
			x.Size = w.file(e.Hash, api.Missing).Size
		}
		demand(len(l) < api.MaxItems && tree.Path(x.Path)) // ahead of what is in it, since few objects can unfold to many leaves
		l = w.below(append(l, x), in, x.Path+"/")
	}
	return l
}

// tree: all leaves of root, and the bytes of those that are files.
func (w walker) tree(root api.Hash) tree.Tree {
	var t tree.Tree
	for _, x := range w.leaves(root) {
		t = append(t, w.at(x.Path, x.Dir, x.Hash))
	}
	return t
}

// at: the item of that path; of a directory nothing is got.
func (w walker) at(p string, dir bool, h api.Hash) api.Item {
	if dir {
		return api.Item{Path: p, Dir: true}
	}
	return api.Item{Path: p, Data: w.bytes(h, api.Missing)}
}

// item: the one of p, part for part from root on.
func (w walker) item(root api.Hash, p string) api.Item {
	if !tree.Path(p) {
		panic(api.BadPath)
	}
	e := node.Entry{Dir: true, Hash: root}
	absent := api.NotFound
	for name := range strings.SplitSeq(p, "/") {
		e = w.within(e, name, absent)
		absent = api.Missing
	}
	return w.at(p, e.Dir, e.Hash)
}

// within: the entry of that name in the directory that e tells of.
func (w walker) within(e node.Entry, name string, absent api.Fault) node.Entry {
	if !e.Dir {
		panic(api.NotDir)
	}
	in, is := node.Find(w.dir(e.Hash, absent), name)
	if !is {
		panic(api.NotFound)
	}
	return in
}
