package ingest

import (
	"hayloft/api"
	"hayloft/chunker"
	"hayloft/node"
	"hayloft/store"
	"hayloft/tree"
)

// walker goes through a right tree, and counts what it meets.
type walker struct {
	Count
	items map[string][]api.Item                    // by the paths of their directories, names rising
	put   func(store.Object) (api.Hash, api.Fault) // is given each object behind those that it names
}

// top: the root, which no tree has as an item.
func top() api.Item {
	return api.Item{Dir: true}
}

// home: the items of t, which is right, by their directories. In a directory paths rise as
// names do, since all that is ahead of a name is the same.
func home(t tree.Tree) map[string][]api.Item {
	m := map[string][]api.Item{}
	for _, x := range t {
		dir, _ := tree.Split(x.Path)
		m[dir] = append(m[dir], x)
	}
	return m
}

// all puts the objects of the whole tree; the name of the root's, and how many there were, where
// pending tells how many wait.
func (w *walker) all(pending func() int) (api.Hash, Count, api.Fault) {
	ahead := pending()
	h, f := w.walk(top())
	if f != api.OK {
		return api.Hash{}, Count{}, f
	}
	w.New = pending() - ahead
	return h, w.Count, api.OK
}

// walk puts the objects of x, of a directory all that is in it first; the name of the last one.
func (w *walker) walk(x api.Item) (api.Hash, api.Fault) {
	if !x.Dir {
		return w.file(x.Data)
	}
	var l []node.Entry
	for _, y := range w.items[x.Path] {
		h, f := w.walk(y)
		if f != api.OK {
			return api.Hash{}, f
		}
		_, name := tree.Split(y.Path)
		l = append(l, node.Entry{Name: name, Dir: y.Dir, Hash: h})
	}
	w.Dirs++
	return w.lay(node.PutDir(l))
}

// file puts the objects of a file of data; the name of the last one.
func (w *walker) file(data []byte) (api.Hash, api.Fault) {
	chunks, f := chunker.Split(chunker.Usual(), data)
	if f != api.OK {
		return api.Hash{}, f
	}
	x := node.File{Size: len(data)}
	for _, b := range chunks {
		h, f := w.lay(node.Chunk(b))
		if f != api.OK {
			return api.Hash{}, f
		}
		x.Chunks = append(x.Chunks, h)
	}
	w.Files++
	w.Chunks += len(chunks)
	return w.lay(node.PutFile(x))
}

// lay puts x, unless making it had a fault.
func (w *walker) lay(x store.Object, f api.Fault) (api.Hash, api.Fault) {
	if f != api.OK {
		return api.Hash{}, f
	}
	return w.put(x)
}
