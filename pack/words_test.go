package pack_test

import (
	"bytes"
	"fmt"
	"math/rand"
	"slices"
	"strconv"
	"strings"
	"testing"

	"hayloft/api"
	"hayloft/crc"
	"hayloft/frame"
	"hayloft/pack"
	"hayloft/simfs"
)

// words: packs by the chapter's words, over a file system of their own, with what is asked of a pack worked out from its file's bytes.
type words struct {
	s *simfs.FS
}

// wordsWriter: what the chapter says is kept of a writer.
type wordsWriter struct {
	id, size, count int
	closed          bool
}

func (x words) begin(id int) (*wordsWriter, api.Fault) {
	if id < 1 || id > 999999 {
		return nil, api.BadArg
	}
	if slices.Contains(x.s.List(), fmt.Sprintf("pack.%d", id)) {
		return nil, api.Exists
	}
	if f := x.s.Create(fmt.Sprintf("tmp.%d", id)); f != api.OK {
		return nil, f
	}
	return &wordsWriter{id: id}, api.OK
}

func (x words) add(w *wordsWriter, r frame.Record) (int, api.Fault) {
	switch {
	case w.closed:
		return 0, api.Closed
	case r.Kind < 1 || r.Kind > 9 || len(r.Body) > 5000:
		return 0, api.BadArg
	case w.size+49+len(r.Body) > 12000:
		return 0, api.TooLarge
	}
	if f := x.s.Append(fmt.Sprintf("tmp.%d", w.id), framed(r)); f != api.OK {
		return 0, f
	}
	w.size += 49 + len(r.Body)
	w.count++
	return w.size - 49 - len(r.Body), api.OK
}

func (x words) seal(w *wordsWriter) api.Fault {
	if w.closed {
		return api.Closed
	}
	if w.count == 0 {
		return api.Early
	}
	w.closed = true
	temp := fmt.Sprintf("tmp.%d", w.id)
	f := x.s.Fsync(temp)
	if f == api.OK {
		f = x.s.Rename(temp, fmt.Sprintf("pack.%d", w.id))
	}
	if f == api.OK {
		f = x.s.SyncDir()
	}
	return f
}

func (x words) abort(w *wordsWriter) api.Fault {
	if w.closed {
		return api.Closed
	}
	w.closed = true
	return x.s.Remove(fmt.Sprintf("tmp.%d", w.id))
}

// at: the record whose frame begins b, made anew of its bytes, and how many it has; 0: there is none.
func (x words) at(b []byte) (frame.Record, int) {
	if len(b) < 49 {
		return frame.Record{}, 0
	}
	n := int(b[43])<<8 + int(b[44])
	if len(b) < 49+n {
		return frame.Record{}, 0
	}
	r := frame.Record{Kind: int(b[6]), Name: api.Hash(b[10:42]), Body: b[45 : 45+n]}
	if r.Kind < 1 || r.Kind > 9 || n > 5000 || !bytes.Equal(framed(r), b[:49+n]) {
		return frame.Record{}, 0
	}
	return r, 49 + n
}

func (x words) load(id int) ([]frame.Placed, api.Fault) {
	if id < 1 || id > 999999 {
		return nil, api.BadArg
	}
	b, f := x.s.Read(fmt.Sprintf("pack.%d", id))
	if f != api.OK {
		return nil, f
	}
	var l []frame.Placed
	for at := 0; at < len(b); {
		r, n := x.at(b[at:])
		if n == 0 {
			return nil, api.Corrupt
		}
		l = append(l, frame.Placed{At: at, Len: n, R: r})
		at += n
	}
	if l == nil {
		return nil, api.Corrupt
	}
	return l, api.OK
}

func (x words) get(id, at int) (frame.Record, api.Fault) {
	if id < 1 || id > 999999 {
		return frame.Record{}, api.BadArg
	}
	b, f := x.s.Read(fmt.Sprintf("pack.%d", id))
	if f != api.OK {
		return frame.Record{}, f
	}
	if at < 0 || at >= len(b) {
		return frame.Record{}, api.BadArg
	}
	r, n := x.at(b[at:])
	if n == 0 {
		return frame.Record{}, api.Corrupt
	}
	return r, api.OK
}

func (x words) ids() []int {
	var l []int
	for _, name := range x.s.List() {
		for id := range 30 {
			if id > 0 && name == "pack."+strconv.Itoa(id) {
				l = append(l, id)
			}
		}
	}
	slices.Sort(l)
	return l
}

func (x words) temps() []string {
	return slices.DeleteFunc(x.s.List(), func(name string) bool { return !strings.HasPrefix(name, "tmp.") })
}

func (x words) clean() (int, api.Fault) {
	l := x.temps()
	for i, name := range l {
		if f := x.s.Remove(name); f != api.OK {
			return i, f
		}
	}
	if len(l) == 0 {
		return 0, api.OK
	}
	return len(l), x.s.SyncDir()
}

func (x words) drop(id int) api.Fault {
	if id < 1 || id > 999999 {
		return api.BadArg
	}
	f := x.s.Remove(fmt.Sprintf("pack.%d", id))
	if f == api.OK {
		f = x.s.SyncDir()
	}
	return f
}

// both: the program and the words, beside each other.
type both struct {
	t    *testing.T
	r    *rand.Rand
	s    *simfs.FS
	c    *crc.Table
	x    words
	ws   []*pack.Writer
	want []*wordsWriter
}

// id: one of few, so that they meet; now and then none.
func (b *both) id() int {
	if b.r.Intn(20) == 0 {
		return []int{0, -1, 1000000}[b.r.Intn(3)]
	}
	return 1 + b.r.Intn(12)
}

func (b *both) record() frame.Record {
	switch b.r.Intn(12) {
	case 0:
		return record(b.r.Intn(30)-10, b.r.Intn(9))
	case 1:
		return record(1+b.r.Intn(9), 5000-b.r.Intn(2))
	case 2:
		return record(1, 5001)
	case 3:
		return record(5, b.r.Intn(3000))
	}
	return record(1+b.r.Intn(9), b.r.Intn(30))
}

func (b *both) alike(what string, ok bool) {
	b.t.Helper()
	if !ok {
		b.t.Fatalf("%s: not as the chapter says", what)
	}
}

// writer: what one of the writers is asked; false: there is none.
func (b *both) writer() bool {
	if len(b.ws) == 0 {
		return false
	}
	i := b.r.Intn(min(len(b.ws), 6))
	w, want := b.ws[len(b.ws)-1-i], b.want[len(b.ws)-1-i]
	switch b.r.Intn(10) {
	case 0, 1:
		b.alike("Seal", w.Seal() == b.x.seal(want))
	case 2:
		b.alike("Abort", w.Abort() == b.x.abort(want))
	default:
		r := b.record()
		at, f := w.Add(r)
		wantAt, wantF := b.x.add(want, r)
		b.alike("Add", at == wantAt && f == wantF)
	}
	b.alike("Size and Count", w.Size() == want.size && w.Count() == want.count)
	return true
}

// call: one that needs no writer.
func (b *both) call() {
	id := b.id()
	switch b.r.Intn(7) {
	case 0, 1:
		w, f := pack.Begin(b.s, b.c, id)
		want, wantF := b.x.begin(id)
		b.alike("Begin", f == wantF && (w == nil) == (want == nil))
		if w != nil {
			b.ws, b.want = append(b.ws, w), append(b.want, want)
		}
	case 2:
		if b.r.Intn(5) == 0 {
			n, f := pack.Clean(b.s)
			want, wantF := b.x.clean()
			b.alike("Clean", n == want && f == wantF)
		}
	case 3:
		if b.r.Intn(3) == 0 {
			b.alike("Drop", pack.Drop(b.s, id) == b.x.drop(id))
		}
	default:
		l, f := pack.Load(b.s, b.c, id)
		want, wantF := b.x.load(id)
		b.alike("Load", f == wantF && placedAlike(l, want))
		at := b.r.Intn(200) - 5
		if len(l) > 0 && b.r.Intn(2) == 0 {
			at = l[b.r.Intn(len(l))].At
		}
		r, f := pack.Get(b.s, b.c, id, at)
		wantR, wantF := b.x.get(id, at)
		b.alike("Get", f == wantF && alike(r, wantR))
	}
}

// disk: something becomes of both file systems.
func (b *both) disk() {
	n, at, by := b.r.Intn(6), b.r.Intn(60), byte(1<<b.r.Intn(8))
	name := []string{"pack.", "tmp.", "pack.0", "tmp.x"}[b.r.Intn(4)] + strconv.Itoa(b.id())
	cuts := []int{b.r.Intn(99), b.r.Intn(999), b.r.Intn(9), b.r.Intn(99)}
	kind := b.r.Intn(12)
	for _, s := range []*simfs.FS{b.s, b.x.s} {
		switch kind {
		case 0, 1, 2:
			s.Arm(n)
		case 3:
			s.Up(n, cuts)
		case 4:
			s.Flip(name, at, by)
		case 5:
			s.Create(name)
		case 6:
			s.Remove(name)
		}
		if s.Down() && kind > 7 {
			s.Up(n, cuts)
		}
	}
}

// same: both file systems are alike, and what is told of all packs is.
func (b *both) same() {
	b.t.Helper()
	b.alike("what is seen", slices.Equal(b.s.List(), b.x.s.List()) && b.s.Steps() == b.x.s.Steps() && b.s.Down() == b.x.s.Down())
	for _, name := range b.s.List() {
		got, _ := b.s.Read(name)
		want, _ := b.x.s.Read(name)
		b.alike(name, bytes.Equal(got, want))
	}
	b.alike("IDs", slices.Equal(pack.IDs(b.s), b.x.ids()))
	b.alike("Temps", slices.Equal(pack.Temps(b.s), b.x.temps()))
}

func TestAsTheChapterSays(t *testing.T) {
	for seed := range int64(300) {
		r := rand.New(rand.NewSource(seed))
		room := []int{0, 300, 3000, api.MaxDisk}[r.Intn(4)]
		b := &both{t: t, r: r, s: fresh(t, room), c: crc.New(), x: words{s: fresh(t, room)}}
		for range 300 {
			switch k := r.Intn(10); {
			case k < 5 && b.writer():
			case k == 9:
				b.disk()
			default:
				b.call()
			}
			b.same()
		}
	}
}
