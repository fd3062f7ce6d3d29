package ingest

import (
	"testing"

	"hayloft/api"
	"hayloft/simfs"
	"hayloft/store"
	"hayloft/tree"
)

// brittle: a store one of whose Puts has a fault, the one behind so many calls. A real one has
// none of an object that can be, so what is answered then is asked here, of what stands behind
// the calls.
type brittle struct {
	*store.Store
	left int
	put  []api.Hash
}

func (b *brittle) Put(x store.Object) (api.Hash, api.Fault) {
	b.left--
	if b.left == -1 {
		return api.Hash{}, api.NoSpace
	}
	h, f := b.Store.Put(x)
	b.put = append(b.put, h)
	return h, f
}

// behind: a store that is empty, and whose Put has a fault once, behind so many calls.
func behind(t *testing.T, calls int) *brittle {
	t.Helper()
	s, f := simfs.New(api.MaxDisk)
	o, g := store.Open(s)
	if f != api.OK || g != api.OK {
		t.Fatalf("faults %d, %d", f, g)
	}
	return &brittle{Store: o, left: calls}
}

// wasPut: just the first of l were, as many as Put had no fault of.
func wasPut(t *testing.T, b *brittle, l []store.Object, calls int) {
	t.Helper()
	met := map[api.Hash]int{}
	for i, h := range b.put {
		if i >= len(l) || h != b.Name(l[i]) {
			t.Errorf("behind %d calls: object %d is another one", calls, i)
		}
		met[h]++
	}
	if len(b.put) != min(calls, len(l)) || b.Pending() != len(met) {
		t.Errorf("behind %d calls: %d were put, %d wait", calls, len(b.put), b.Pending())
	}
}

func TestP1502FaultOfPut(t *testing.T) {
	u := tree.Tree{
		{Path: "a", Dir: true}, {Path: "a.b", Data: make([]byte, 100)}, {Path: "a/b", Data: []byte("x")}, {Path: "a/c", Dir: true},
		{Path: "a/d", Data: make([]byte, 100)}, {Path: "e", Data: nil}, {Path: "f", Dir: true}, {Path: "f/b", Data: []byte("x")},
	}
	all := behind(t, 0)
	l, f := Objects(all.Store, u)
	if f != api.OK || len(l) != 19 {
		t.Fatalf("%d objects, fault %d", len(l), f)
	}
	for calls := range len(l) {
		b := behind(t, calls)
		w := walker{items: home(u), put: b.Put}
		h, n, f := w.all(b.Pending)
		if f != api.NoSpace || h != (api.Hash{}) || n != (Count{}) {
			t.Errorf("behind %d calls: %x, %v, fault %d", calls, h, n, f)
		}
		wasPut(t, b, l, calls)
	}
	b := behind(t, len(l))
	w := walker{items: home(u), put: b.Put}
	h, n, f := w.all(b.Pending)
	if f != api.OK || h != b.Name(l[len(l)-1]) || n.New != b.Pending() {
		t.Errorf("no fault: %x, %v, fault %d", h, n, f)
	}
	wasPut(t, b, l, len(l))
}

func TestP1502FaultOfPutOfAFile(t *testing.T) {
	data := make([]byte, 100)
	for i := range data {
		data[i] = byte(i)
	}
	all := behind(t, 0)
	l, f := Objects(all.Store, tree.Tree{{Path: "a", Data: data}})
	if f != api.OK || len(l) < 4 {
		t.Fatalf("%d objects, fault %d", len(l), f)
	}
	l = l[:len(l)-1] // but for the directory
	for calls := range len(l) {
		b := behind(t, calls)
		w := walker{put: b.Put}
		h, f := w.file(data)
		if f != api.NoSpace || h != (api.Hash{}) {
			t.Errorf("behind %d calls: %x, fault %d", calls, h, f)
		}
		wasPut(t, b, l, calls)
	}
}

// What can't be made has its fault, and nothing is put of it.
func TestP1502FaultOfNode(t *testing.T) {
	b := behind(t, 9)
	w := walker{put: b.Put}
	if h, f := w.lay(store.Object{Kind: 1, Body: []byte("x")}, api.BadArg); f != api.BadArg || h != (api.Hash{}) {
		t.Errorf("%x, fault %d", h, f)
	}
	wasPut(t, b, nil, 0)
}
