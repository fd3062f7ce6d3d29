package shelf_test

import (
	"bytes"
	"fmt"
	"math/rand"
	"slices"
	"testing"

	"hayloft/api"
	"hayloft/crc"
	"hayloft/frame"
	"hayloft/shelf"
	"hayloft/simfs"
)

// words: a shelf by the chapter's words, over a file system of its own, with all that is asked worked out from the files' bytes.
type words struct {
	s     *simfs.FS
	begun []int
}

func (x *words) open() api.Fault {
	left := false
	for _, name := range x.s.List() {
		if len(name) >= 4 && name[:4] == "tmp." {
			left = true
			if f := x.s.Remove(name); f != api.OK {
				return f
			}
		}
	}
	if left {
		if f := x.s.SyncDir(); f != api.OK {
			return f
		}
	}
	x.begun = nil
	return api.OK
}

func isID(id int) bool { return id >= 1 && id <= 999999 }

func (x *words) ids() []int {
	var l []int
	for _, name := range x.s.List() {
		var id int
		if n, _ := fmt.Sscanf(name, "pack.%d", &id); n == 1 && isID(id) && name == fmt.Sprintf("pack.%d", id) {
			l = append(l, id)
		}
	}
	slices.Sort(l)
	return l
}

func (x *words) next() int {
	next := 1
	for _, id := range append(x.ids(), x.begun...) {
		next = max(next, id+1)
	}
	return next
}

func (x *words) need(l []frame.Record) (int, int, api.Fault) {
	for _, r := range l {
		if r.Kind < 1 || r.Kind > 9 || len(r.Body) > 5000 {
			return 0, 0, api.BadArg
		}
	}
	packs, _ := parts(1, l)
	return len(packs), size(l...), api.OK
}

func (x *words) lay(l []frame.Record) ([]shelf.Where, api.Fault) {
	n, _, f := x.need(l)
	if f != api.OK {
		return nil, f
	}
	next := x.next()
	if n > 0 && next+n-1 > 999999 {
		return nil, api.TooLarge
	}
	packs, places := parts(next, l)
	for i, p := range packs {
		if f := x.layPack(next+i, p); f != api.OK {
			return nil, f
		}
	}
	return places, api.OK
}

func (x *words) layPack(id int, l []frame.Record) api.Fault {
	temp, name := fmt.Sprintf("tmp.%d", id), fmt.Sprintf("pack.%d", id)
	f := x.s.Create(temp)
	if f != api.OK {
		return f
	}
	x.begun = append(x.begun, id)
	for _, r := range l {
		if f == api.OK {
			f = x.s.Append(temp, framed(r))
		}
	}
	if f == api.OK {
		f = x.s.Fsync(temp)
	}
	if f == api.OK {
		f = x.s.Rename(temp, name)
	}
	if f == api.OK {
		f = x.s.SyncDir()
	}
	if f != api.OK {
		x.s.Remove(temp)
	}
	return f
}

// at: the record whose frame begins b, made anew of its bytes, and how many it has; 0: there is none.
func (x *words) at(b []byte) (frame.Record, int) {
	if len(b) < 49 {
		return frame.Record{}, 0
	}
	n := 49 + int(b[43])<<8 + int(b[44])
	if len(b) < n {
		return frame.Record{}, 0
	}
	r := frame.Record{Kind: int(b[6]), Name: api.Hash(b[10:42]), Body: b[45 : n-4]}
	if r.Kind < 1 || r.Kind > 9 || n > 5049 || !bytes.Equal(framed(r), b[:n]) {
		return frame.Record{}, 0
	}
	return r, n
}

func (x *words) file(id int) ([]byte, api.Fault) {
	if !isID(id) {
		return nil, api.BadArg
	}
	return x.s.Read(fmt.Sprintf("pack.%d", id))
}

func (x *words) read(w shelf.Where) (frame.Record, api.Fault) {
	if w.Len < 1 {
		return frame.Record{}, api.BadArg
	}
	b, f := x.file(w.Pack)
	if f != api.OK {
		return frame.Record{}, f
	}
	if w.At < 0 || w.At >= len(b) {
		return frame.Record{}, api.BadArg
	}
	r, n := x.at(b[w.At:])
	if n == 0 || n != w.Len {
		return frame.Record{}, api.Corrupt
	}
	return r, api.OK
}

func (x *words) load(id int) ([]shelf.Found, api.Fault) {
	b, f := x.file(id)
	if f != api.OK {
		return nil, f
	}
	var l []shelf.Found
	for at := 0; at < len(b); {
		r, n := x.at(b[at:])
		if n == 0 {
			return nil, api.Corrupt
		}
		l = append(l, shelf.Found{W: shelf.Where{Pack: id, At: at, Len: n}, R: r})
		at += n
	}
	if l == nil {
		return nil, api.Corrupt
	}
	return l, api.OK
}

// walk: all first, and then as much of it as is asked.
func (x *words) walk(most int) ([]shelf.Found, []int) {
	if most < 1 {
		return nil, nil
	}
	var all []shelf.Found
	var lost []int
	for _, id := range x.ids() {
		l, f := x.load(id)
		all = append(all, l...)
		if f != api.OK {
			lost = append(lost, id)
		}
	}
	if len(all) < most {
		return all, lost
	}
	all = all[:most]
	last := all[most-1].W.Pack
	return all, slices.DeleteFunc(lost, func(id int) bool { return id > last })
}

func (x *words) drop(ids []int) (int, api.Fault) {
	for i, id := range ids {
		if !isID(id) {
			return i, api.BadArg
		}
		f := x.s.Remove(fmt.Sprintf("pack.%d", id))
		if f == api.OK {
			f = x.s.SyncDir()
		}
		if f != api.OK {
			return i, f
		}
	}
	return len(ids), api.OK
}

func (x *words) bytes() int {
	n := 0
	for _, id := range x.ids() {
		b, _ := x.file(id)
		n += len(b)
	}
	return n
}

// both: the program and the words, beside each other.
type both struct {
	t    *testing.T
	r    *rand.Rand
	s    *simfs.FS
	h    *shelf.Shelf
	x    *words
	laid []shelf.Where
}

func (b *both) alike(what string, ok bool) {
	b.t.Helper()
	if !ok {
		b.t.Fatalf("%s: not as the chapter says", what)
	}
}

// id: one that is likely there; now and then none, or far off.
func (b *both) id() int {
	if b.r.Intn(12) == 0 {
		return []int{0, -1, 1000000, 999999}[b.r.Intn(4)]
	}
	if l := b.h.IDs(); len(l) > 0 && b.r.Intn(3) > 0 {
		return l[b.r.Intn(len(l))]
	}
	return 1 + b.r.Intn(12)
}

func (b *both) records() []frame.Record {
	var l []frame.Record
	for range b.r.Intn(9) {
		kind, n := 1+b.r.Intn(9), b.r.Intn(40)
		switch b.r.Intn(30) {
		case 0:
			kind = b.r.Intn(30) - 10
		case 1:
			n = 5001
		case 2, 3, 4, 5, 6, 7, 8, 9:
			n = 5000 - b.r.Intn(3)*b.r.Intn(3000)/2
		}
		l = append(l, record(kind, max(n, 0)))
	}
	return l
}

func (b *both) lay() {
	l := b.records()
	p, n, f := shelf.Need(l)
	wantP, wantN, wantF := b.x.need(l)
	b.alike("Need", p == wantP && n == wantN && f == wantF)
	got, f := b.h.Lay(l)
	want, wantF := b.x.lay(l)
	b.alike("Lay", slices.Equal(got, want) && f == wantF)
	b.laid = append(b.laid, got...)
}

func (b *both) read() {
	w := shelf.Where{Pack: b.id(), At: b.r.Intn(200) - 5, Len: b.r.Intn(90) - 3}
	if len(b.laid) > 0 && b.r.Intn(4) > 0 {
		w = b.laid[b.r.Intn(len(b.laid))]
		if b.r.Intn(5) == 0 {
			w.Len += b.r.Intn(3) - 1
		}
	}
	got, f := b.h.Read(w)
	want, wantF := b.x.read(w)
	b.alike("Read", f == wantF && alike(got, want))
}

func (b *both) look() {
	id := b.id()
	l, f := b.h.Load(id)
	want, wantF := b.x.load(id)
	b.alike("Load", f == wantF && slices.EqualFunc(l, want, func(p frame.Placed, x shelf.Found) bool {
		return p.At == x.W.At && p.Len == x.W.Len && alike(p.R, x.R)
	}))
	for _, most := range []int{b.r.Intn(12) - 2, 1000} {
		got, lost := b.h.Walk(most)
		want, wantLost := b.x.walk(most)
		b.alike("Walk", foundAlike(got, want) && slices.Equal(lost, wantLost))
	}
}

func (b *both) drop() {
	var ids []int
	for range b.r.Intn(4) {
		ids = append(ids, b.id())
	}
	n, f := b.h.Drop(ids)
	want, wantF := b.x.drop(ids)
	b.alike("Drop", n == want && f == wantF)
}

func (b *both) open() {
	h, f := shelf.Open(b.s, crc.New())
	wantF := b.x.open()
	b.alike("Open", f == wantF && (h != nil) == (f == api.OK))
	if h != nil {
		b.h = h
	}
}

// disk: something is done to both file systems, alike.
func (b *both) disk() {
	n, at, by := b.r.Intn(14), b.r.Intn(300), byte(b.r.Intn(256))
	id := b.id()
	name := fmt.Sprintf("%s%d", []string{"pack.", "tmp.", "pack.0", "tmp.x"}[b.r.Intn(4)], id)
	cuts := []int{b.r.Intn(9999), b.r.Intn(999), b.r.Intn(9), b.r.Intn(9999), b.r.Intn(99)}
	kind := b.r.Intn(14)
	if id == 999999 && b.r.Intn(4) > 0 {
		kind = 6 // so that it is not there for ever
	}
	for _, s := range []*simfs.FS{b.s, b.x.s} {
		switch kind {
		case 0, 1, 2:
			s.Arm(n)
		case 3:
			s.Up(n, cuts)
		case 4:
			s.Flip(name, at, by)
		case 5:
			s.Create(name)
		case 6:
			s.Remove(name)
		case 7:
			s.Create(fmt.Sprintf("tmp.%d", b.x.next()))
		}
		if s.Down() && kind > 8 {
			s.Up(n, cuts)
		}
	}
}

// same: both file systems are alike, and what is told of all packs is.
func (b *both) same() {
	b.t.Helper()
	b.alike("what is seen", slices.Equal(b.s.List(), b.x.s.List()) && b.s.Steps() == b.x.s.Steps() && b.s.Down() == b.x.s.Down())
	for _, name := range b.s.List() {
		got, _ := b.s.Read(name)
		want, _ := b.x.s.Read(name)
		b.alike(name, bytes.Equal(got, want))
	}
	b.alike("IDs", slices.Equal(b.h.IDs(), b.x.ids()))
	b.alike("Next", b.h.Next() == b.x.next())
	b.alike("Bytes", b.h.Bytes() == b.x.bytes())
}

func TestAsTheChapterSays(t *testing.T) {
	for seed := range int64(300) {
		r := rand.New(rand.NewSource(seed))
		room := []int{0, 3000, 30000, api.MaxDisk}[r.Intn(4)]
		b := &both{t: t, r: r, s: fresh(t, room), x: &words{s: fresh(t, room)}}
		b.open()
		for range 100 {
			switch k := r.Intn(20); {
			case k < 6:
				b.lay()
			case k < 10:
				b.read()
			case k < 13:
				b.look()
			case k < 15:
				b.drop()
			case k < 16:
				b.open()
			default:
				b.disk()
			}
			b.same()
		}
	}
}
