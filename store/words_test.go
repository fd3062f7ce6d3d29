package store_test

import (
	"maps"
	"math/rand"
	"slices"
	"testing"

	"hayloft/api"
	"hayloft/crc"
	"hayloft/frame"
	"hayloft/index"
	"hayloft/segment"
	"hayloft/shelf"
	"hayloft/simfs"
	"hayloft/store"
)

// words: a store by the chapter's words, over a file system of its own.
type words struct {
	s    *simfs.FS
	h    *shelf.Shelf
	x    *index.Index
	wait []frame.Record
}

func (w *words) begin() api.Fault {
	h, f := shelf.Open(w.s, crc.New())
	if f != api.OK {
		return f
	}
	x, _, f := index.Open(w.s, crc.New(), h)
	if f != api.OK {
		return f
	}
	w.h, w.x, w.wait = h, x, nil
	return api.OK
}

// waits: the place of the object that waits under that name; -1: none does.
func (w *words) waits(h api.Hash) int {
	return slices.IndexFunc(w.wait, func(r frame.Record) bool { return r.Name == h })
}

func (w *words) has(h api.Hash) bool {
	_, ok := w.x.Find(h)
	return ok || w.waits(h) >= 0
}

func (w *words) put(x store.Object) (api.Hash, api.Fault) {
	if x.Kind < 1 || x.Kind > 9 || len(x.Body) > 5000 {
		return api.Hash{}, api.BadArg
	}
	if !w.has(named(x)) {
		w.wait = append(w.wait, record(x))
	}
	return named(x), api.OK
}

func (w *words) get(h api.Hash) (store.Object, api.Fault) {
	if !w.has(h) {
		return store.Object{}, api.NotFound
	}
	if i := w.waits(h); i >= 0 {
		return store.Object{Kind: w.wait[i].Kind, Body: w.wait[i].Body}, api.OK
	}
	at, _ := w.x.Find(h)
	r, f := w.h.Read(at)
	x := store.Object{Kind: r.Kind, Body: r.Body}
	switch {
	case f == api.Down:
		return store.Object{}, api.Down
	case f != api.OK, r.Name != h, named(x) != h:
		return store.Object{}, api.Corrupt
	}
	return x, api.OK
}

// lay: records into packs; what the index is to be told.
func (w *words) lay(l []frame.Record) ([]segment.Entry, api.Fault) {
	if len(l) == 0 {
		return nil, api.OK
	}
	places, f := w.h.Lay(l)
	var out []segment.Entry
	for i, at := range places {
		out = append(out, segment.Entry{Name: l[i].Name, W: at})
	}
	return out, f
}

func (w *words) flush() (int, api.Fault) {
	n := len(w.wait)
	if n == 0 {
		return 0, api.OK
	}
	l, f := w.lay(w.wait)
	if f == api.OK {
		f = w.x.Add(l)
	}
	if f != api.OK {
		return 0, f
	}
	w.wait = nil
	return n, api.OK
}

func (w *words) names() []api.Hash {
	var l []api.Hash
	for _, r := range w.wait {
		l = append(l, r.Name)
	}
	for _, e := range w.x.All() {
		l = append(l, e.Name)
	}
	return inOrder(l)
}

func (w *words) replace(keep []api.Hash) (int, api.Fault) {
	if len(w.wait) > 0 {
		return 0, api.Early
	}
	var l []frame.Record
	for _, h := range keep {
		if !w.has(h) {
			return 0, api.Missing
		}
	}
	for _, h := range inOrder(keep) {
		x, f := w.get(h)
		if f != api.OK {
			return 0, f
		}
		l = append(l, frame.Record{Kind: x.Kind, Name: h, Body: x.Body})
	}
	ahead := w.h.IDs()
	told, f := w.lay(l)
	if f == api.OK {
		f = w.x.Set(told)
	}
	if f != api.OK {
		return 0, f
	}
	if _, f = w.h.Drop(ahead); f != api.OK {
		return 0, f
	}
	return len(ahead), api.OK
}

func (w *words) spoilt() (l []api.Hash) {
	for _, h := range w.names() {
		if _, f := w.get(h); f == api.Corrupt {
			l = append(l, h)
		}
	}
	return l
}

// both: the program and the words, beside each other.
type both struct {
	t    *testing.T
	r    *rand.Rand
	s    *simfs.FS
	o    *store.Store
	w    words
	most int // of the sizes of bodies
}

func (b *both) alike(what string, ok bool) {
	b.t.Helper()
	if !ok {
		b.t.Fatalf("%s: not as the chapter says", what)
	}
}

// object: one of few, now and then none.
func (b *both) object() store.Object {
	return object(b.r.Intn(11), b.r.Intn(1+b.r.Intn(b.most)))
}

// keep: some of the names that are there, in any order, now and then twice, or with another one.
func (b *both) keep() []api.Hash {
	l := b.w.names()
	b.r.Shuffle(len(l), func(i, j int) { l[i], l[j] = l[j], l[i] })
	l = l[:b.r.Intn(len(l)+1)]
	if len(l) > 0 && b.r.Intn(3) == 0 {
		l = append(l, l[0])
	}
	if b.r.Intn(8) == 0 {
		l = append(l, named(b.object()))
	}
	return l
}

// call: one of those that the chapter lists.
func (b *both) call() {
	switch b.r.Intn(12) {
	case 0:
		o, f := store.Open(b.s)
		want := b.w.begin()
		b.alike("Open", f == want && (o == nil) == (f != api.OK))
		if o != nil {
			b.o = o
		}
	case 1, 2:
		n, f := b.o.Flush()
		want, wantF := b.w.flush()
		b.alike("Flush", n == want && f == wantF)
	case 3, 4:
		keep := b.keep()
		n, f := b.o.Replace(keep)
		want, wantF := b.w.replace(keep)
		b.alike("Replace", n == want && f == wantF)
	default:
		x := b.object()
		h, f := b.o.Put(x)
		want, wantF := b.w.put(x)
		b.alike("Put", h == want && f == wantF)
	}
}

// disk: something becomes of both file systems.
func (b *both) disk() {
	n, at, by, kind := b.r.Intn(30), b.r.Intn(200), byte(1<<b.r.Intn(8)), b.r.Intn(12)
	name := "index"
	if l := b.s.List(); len(l) > 0 {
		name = l[b.r.Intn(len(l))]
	}
	cuts := []int{b.r.Intn(99), b.r.Intn(999), b.r.Intn(9), b.r.Intn(99)}
	for _, s := range []*simfs.FS{b.s, b.w.s} {
		switch kind {
		case 0, 1, 2:
			s.Arm(n)
		case 3:
			s.Up(n, cuts)
		case 4, 5:
			s.Flip(name, at, by)
		case 6:
			s.Create("tmp.index")
		case 7:
			s.Remove(name)
		}
		if s.Down() && kind > 7 {
			s.Up(n%4, cuts)
		}
	}
}

// same: both file systems are alike, and what both stores tell is.
func (b *both) same() {
	b.t.Helper()
	b.alike("what is seen", b.s.Steps() == b.w.s.Steps() && b.s.Down() == b.w.s.Down() && maps.Equal(snapshot(b.s), snapshot(b.w.s)))
	b.alike("Names", slices.Equal(b.o.Names(), b.w.names()))
	b.alike("Pending", b.o.Pending() == len(b.w.wait))
	b.alike("Bytes", b.o.Bytes() == b.w.h.Bytes())
	b.alike("FS", b.o.FS() == b.s)
	l := []api.Hash{{}, named(b.object()), named(b.object())}
	if n := b.w.names(); len(n) > 0 {
		l = append(l, n[b.r.Intn(len(n))], n[b.r.Intn(len(n))])
	}
	for _, h := range l {
		x, f := b.o.Get(h)
		want, wantF := b.w.get(h)
		b.alike("Get", f == wantF && alike(x, want))
		b.alike("Has", b.o.Has(h) == b.w.has(h))
	}
	if b.r.Intn(10) == 0 {
		b.alike("Verify", slices.Equal(b.o.Verify(), b.w.spoilt()))
	}
}

func TestAsTheChapterSays(t *testing.T) {
	for seed := range int64(150) {
		r := rand.New(rand.NewSource(seed))
		room := []int{400, 3000, 30000, api.MaxDisk, api.MaxDisk}[r.Intn(5)]
		b := &both{t: t, r: r, s: fresh(t, room), w: words{s: fresh(t, room)}}
		b.most = []int{3, 30, 300, 5100}[r.Intn(4)]
		b.o = open(t, b.s)
		ok(t, b.w.begin())
		for range 200 {
			if r.Intn(8) == 0 {
				b.disk()
			} else {
				b.call()
			}
			b.same()
		}
	}
}
