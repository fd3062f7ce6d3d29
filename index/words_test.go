package index_test

import (
	"bytes"
	"math/rand"
	"slices"
	"testing"

	"hayloft/api"
	"hayloft/crc"
	"hayloft/frame"
	"hayloft/index"
	"hayloft/segment"
	"hayloft/shelf"
	"hayloft/simfs"
)

// words: an index by the chapter's words, over a file system and a shelf of its own.
type words struct {
	s    *simfs.FS
	h    *shelf.Shelf
	open bool
	list []segment.Entry
}

func (x *words) load() ([]segment.Entry, api.Fault) {
	b, f := x.s.Read("index")
	if f != api.OK {
		return nil, f
	}
	return segment.Get(crc.New(), b)
}

func (x *words) save(l []segment.Entry) api.Fault {
	if !segment.Right(l) {
		return api.BadArg
	}
	if slices.Contains(x.s.List(), "tmp.index") {
		if f := x.s.Remove("tmp.index"); f != api.OK {
			return f
		}
	}
	f := x.s.Create("tmp.index")
	if f == api.OK {
		f = x.s.Append("tmp.index", saved(l...))
	}
	if f == api.OK {
		f = x.s.Fsync("tmp.index")
	}
	if f == api.OK {
		f = x.s.Rename("tmp.index", "index")
	}
	if f == api.OK {
		f = x.s.SyncDir()
	}
	return f
}

func (x *words) rebuild() (l []segment.Entry, lost []int) {
	for _, id := range x.h.IDs() {
		in, f := x.h.Load(id)
		if f != api.OK {
			lost = append(lost, id)
		}
		for _, p := range in {
			l = append(l, segment.Entry{Name: p.R.Name, W: shelf.Where{Pack: id, At: p.At, Len: p.Len}})
		}
	}
	return byName(l...), lost
}

// begin: Open; whether it was rebuilt.
func (x *words) begin() (bool, api.Fault) {
	l, f := x.load()
	told, _ := x.rebuild()
	switch {
	case f == api.OK && slices.Equal(l, told):
		x.open, x.list = true, l
		return false, api.OK
	case f == api.Down:
		return false, f
	case !segment.Right(told):
		return false, api.TooLarge
	}
	if f := x.save(told); f != api.OK {
		return false, f
	}
	x.open, x.list = true, told
	return true, api.OK
}

func (x *words) set(l []segment.Entry) api.Fault {
	if !x.open {
		return api.Nil
	}
	l = byName(l...)
	if !segment.Right(l) {
		return api.TooLarge
	}
	f := x.save(l)
	if f == api.OK {
		x.list = l
	}
	return f
}

// both: the program and the words, beside each other.
type both struct {
	t     *testing.T
	r     *rand.Rand
	s     *simfs.FS
	c     *crc.Table
	h     *shelf.Shelf
	x     *index.Index
	w     words
	names int
}

func (b *both) alike(what string, ok bool) {
	b.t.Helper()
	if !ok {
		b.t.Fatalf("%s: not as the chapter says", what)
	}
}

// entries: some of few names, in any order, now and then with a place that can't be.
func (b *both) entries() []segment.Entry {
	l := make([]segment.Entry, b.r.Intn(6))
	if b.r.Intn(30) == 0 {
		l = make([]segment.Entry, 850+b.r.Intn(80))
	}
	for i := range l {
		l[i] = one(b.r.Intn(b.names), 1+b.r.Intn(300), b.r.Intn(12001), 1+b.r.Intn(12000))
	}
	if len(l) > 0 && b.r.Intn(12) == 0 {
		l[b.r.Intn(len(l))].W.Len = 0
	}
	return l
}

// call: one of those that the chapter lists.
func (b *both) call() {
	l := b.entries()
	switch b.r.Intn(8) {
	case 0:
		x, rebuilt, f := index.Open(b.s, b.c, b.h)
		want, wantF := b.w.begin()
		b.alike("Open", f == wantF && rebuilt == want && (x == nil) == (f != api.OK))
		if x != nil {
			b.x = x
		}
	case 1:
		sorted := byName(l...)
		if b.r.Intn(3) == 0 {
			sorted = l
		}
		b.alike("Save", index.Save(b.s, b.c, sorted) == b.w.save(sorted))
	case 2, 3:
		b.alike("Set", b.x.Set(l) == b.w.set(l))
	default:
		b.alike("Add", b.x.Add(l) == b.w.set(slices.Concat(b.w.list, l)))
	}
}

// packs: something becomes of the packs of both.
func (b *both) packs() {
	var l []frame.Record
	for range b.r.Intn(4) {
		l = append(l, frame.Record{Kind: 1, Name: named(b.r.Intn(b.names)), Body: make([]byte, b.r.Intn(50))})
	}
	id, at, kind := 1+b.r.Intn(9), b.r.Intn(60), b.r.Intn(9)
	for _, h := range []*shelf.Shelf{b.h, b.w.h} {
		switch kind {
		case 0:
			h.Drop([]int{id})
		case 1:
			b.s.Flip(pack(id), at, 1)
			b.w.s.Flip(pack(id), at, 1)
			return
		case 2, 3, 4:
			h.Lay(l)
		}
	}
}

func pack(id int) string { return "pack." + string(rune('0'+id)) }

// disk: something becomes of both file systems.
func (b *both) disk() {
	n, at, by, kind := b.r.Intn(7), b.r.Intn(60), byte(1<<b.r.Intn(8)), b.r.Intn(12)
	name := []string{"index", "tmp.index"}[b.r.Intn(2)]
	cuts := []int{b.r.Intn(99), b.r.Intn(999), b.r.Intn(9), b.r.Intn(99)}
	for _, s := range []*simfs.FS{b.s, b.w.s} {
		switch kind {
		case 0, 1, 2:
			s.Arm(n)
		case 3:
			s.Up(n, cuts)
		case 4:
			s.Flip(name, at, by)
		case 5:
			s.Create(name)
		case 6:
			s.Remove(name)
		}
		if s.Down() && kind > 6 {
			s.Up(n, cuts)
		}
	}
}

// same: both file systems are alike, and what both indexes tell is.
func (b *both) same() {
	b.t.Helper()
	b.alike("what is seen", slices.Equal(b.s.List(), b.w.s.List()) && b.s.Steps() == b.w.s.Steps() && b.s.Down() == b.w.s.Down())
	for _, name := range b.s.List() {
		b.alike(name, bytes.Equal(file(b.s, name), file(b.w.s, name)))
	}
	l, f := index.Load(b.s, b.c)
	want, wantF := b.w.load()
	b.alike("Load", f == wantF && slices.Equal(l, want))
	told, lost := index.Rebuild(b.h)
	wantTold, wantLost := b.w.rebuild()
	b.alike("Rebuild", slices.Equal(told, wantTold) && slices.Equal(lost, wantLost))
	b.alike("All", slices.Equal(b.x.All(), b.w.list))
	b.alike("Len", b.x.Len() == len(b.w.list))
	for range 5 {
		name := named(b.r.Intn(b.names))
		i := slices.IndexFunc(b.w.list, func(e segment.Entry) bool { return e.Name == name })
		w, is := b.x.Find(name)
		b.alike("Find", is == (i >= 0) && (!is && w == shelf.Where{} || is && w == b.w.list[i].W))
	}
}

func TestAsTheChapterSays(t *testing.T) {
	for seed := range int64(200) {
		r := rand.New(rand.NewSource(seed))
		room := []int{0, 300, 3000, api.MaxDisk, api.MaxDisk}[r.Intn(5)]
		b := &both{t: t, r: r, s: fresh(t, room), c: crc.New(), w: words{s: fresh(t, room)}}
		b.h, b.w.h = shelved(t, b.s), shelved(t, b.w.s)
		b.names = []int{8, 30, 3000}[r.Intn(3)]
		for range 150 {
			switch k := r.Intn(10); {
			case k == 9:
				b.disk()
			case k > 6:
				b.packs()
			default:
				b.call()
			}
			b.same()
		}
	}
}
