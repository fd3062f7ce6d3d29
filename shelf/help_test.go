package shelf_test

import (
	"bytes"
	"hash/crc32"
	"math"
	"slices"
	"testing"

	"hayloft/api"
	"hayloft/crc"
	"hayloft/frame"
	"hayloft/pack"
	"hayloft/shelf"
	"hayloft/simfs"
)

// fresh: a file system of so much room.
func fresh(t *testing.T, room int) *simfs.FS {
	t.Helper()
	s, f := simfs.New(room)
	if s == nil || f != api.OK {
		t.Fatalf("New(%d): fault %d", room, f)
	}
	return s
}

// open: a shelf over s, with a table of its own.
func open(t *testing.T, s *simfs.FS) *shelf.Shelf {
	t.Helper()
	h, f := shelf.Open(s, crc.New())
	if h == nil || f != api.OK {
		t.Fatalf("Open: fault %d", f)
	}
	return h
}

// ok: none of the calls has a fault.
func ok(t *testing.T, l ...api.Fault) {
	t.Helper()
	for i, f := range l {
		if f != api.OK {
			t.Fatalf("call %d: fault %d", i, f)
		}
	}
}

// is: the fault is that one.
func is(t *testing.T, what string, got, want api.Fault) {
	t.Helper()
	if got != want {
		t.Errorf("%s: fault %d, not %d", what, got, want)
	}
}

// counts: the number is that one.
func counts(t *testing.T, what string, got, want int) {
	t.Helper()
	if got != want {
		t.Errorf("%s: %d, not %d", what, got, want)
	}
}

// goesDown: the next step finds the file system down.
func goesDown(t *testing.T, s *simfs.FS) {
	t.Helper()
	ok(t, s.Arm(0))
	is(t, "a step too many", s.SyncDir(), api.Down)
}

// sees: the names that are seen are just these, rising.
func sees(t *testing.T, what string, s *simfs.FS, want ...string) {
	t.Helper()
	if got := s.List(); !slices.Equal(got, want) {
		t.Errorf("%s: %q, not %q", what, got, want)
	}
}

// stands: IDs and Next are these.
func stands(t *testing.T, what string, h *shelf.Shelf, next int, ids ...int) {
	t.Helper()
	if got := h.IDs(); !slices.Equal(got, ids) {
		t.Errorf("%s: IDs %v, not %v", what, got, ids)
	}
	counts(t, what+": Next", h.Next(), next)
}

// noIDs: numbers that are no id.
func noIDs() []int {
	return []int{0, -1, -7, 1000000, 1000001, math.MaxInt32, math.MaxInt, math.MinInt}
}

// record: one whose body has so many bytes; its frame has 49 more.
func record(kind, size int) frame.Record {
	r := frame.Record{Kind: kind, Body: make([]byte, size)}
	for i := range r.Body {
		r.Body[i] = byte(i*7 + kind)
	}
	for i := range r.Name {
		r.Name[i] = byte(size*3 + i)
	}
	return r
}

// records: of these sizes, each of another kind than the one ahead.
func records(sizes ...int) []frame.Record {
	var l []frame.Record
	for i, size := range sizes {
		l = append(l, record(1+i%9, size))
	}
	return l
}

// wrongOnes: records that are not right, one of a frame that no pack has room for among them.
func wrongOnes() []frame.Record {
	return []frame.Record{
		{}, record(0, 3), record(-1, 3), record(10, 3), record(math.MaxInt, 0), record(math.MinInt, 0), record(257, 1),
		record(1, api.MaxObject+1), record(9, api.MaxPack), record(0, api.MaxPack), record(2, 70000),
	}
}

// framed: a right record's frame by the words of the chapters.
func framed(r frame.Record) []byte {
	b := []byte{1, 0, 1, byte(r.Kind), 2, 0, 32}
	b = append(b, r.Name[:]...)
	b = append(b, 2, byte(len(r.Body)>>8), byte(len(r.Body)))
	b = append(b, r.Body...)
	b = append([]byte{3, byte(len(b) >> 8), byte(len(b))}, b...)
	s := crc32.Checksum(b, crc32.MakeTable(crc32.Castagnoli))
	return append(b, byte(s), byte(s>>8), byte(s>>16), byte(s>>24))
}

// frames: those of all, one behind the other.
func frames(l ...frame.Record) []byte {
	var b []byte
	for _, r := range l {
		b = append(b, framed(r)...)
	}
	return b
}

// parts: which records each pack has, and where each stands, by the chapter's words: the
// next pack begins where a frame is more than what is left of 12000 bytes.
func parts(next int, l []frame.Record) (packs [][]frame.Record, places []shelf.Where) {
	left := 0
	at := 0
	for _, r := range l {
		n := 49 + len(r.Body)
		if n > left {
			packs = append(packs, nil)
			left, at = 12000, 0
		}
		last := len(packs) - 1
		packs[last] = append(packs[last], r)
		places = append(places, shelf.Where{Pack: next + last, At: at, Len: n})
		left -= n
		at += n
	}
	return packs, places
}

func alike(a, b frame.Record) bool {
	return a.Kind == b.Kind && a.Name == b.Name && bytes.Equal(a.Body, b.Body)
}

func foundAlike(a, b []shelf.Found) bool {
	return slices.EqualFunc(a, b, func(x, y shelf.Found) bool { return x.W == y.W && alike(x.R, y.R) })
}

func isZero(r frame.Record) bool {
	return r.Kind == 0 && r.Name == api.Hash{} && r.Body == nil
}

// found: each record and where it stands.
func found(places []shelf.Where, l []frame.Record) []shelf.Found {
	var x []shelf.Found
	for i, r := range l {
		x = append(x, shelf.Found{W: places[i], R: r})
	}
	return x
}

// lays: all of l, into packs from next on, as the chapter says.
func lays(t *testing.T, what string, h *shelf.Shelf, l ...frame.Record) []shelf.Where {
	t.Helper()
	_, want := parts(h.Next(), l)
	got, f := h.Lay(l)
	if f != api.OK || !slices.Equal(got, want) {
		t.Fatalf("%s: Lay: %v, fault %d, not %v", what, got, f, want)
	}
	return got
}

// notLaid: Lay has that fault, and tells no place.
func notLaid(t *testing.T, what string, h *shelf.Shelf, l []frame.Record, want api.Fault) {
	t.Helper()
	w, f := h.Lay(l)
	is(t, what+": Lay", f, want)
	if len(w) != 0 {
		t.Errorf("%s: Lay: %d places beside fault %d", what, len(w), f)
	}
}

// reads: each record stands where it is said to.
func reads(t *testing.T, what string, h *shelf.Shelf, places []shelf.Where, l ...frame.Record) {
	t.Helper()
	for i, w := range places {
		if r, f := h.Read(w); f != api.OK || !alike(r, l[i]) {
			t.Errorf("%s: Read of %v: fault %d", what, w, f)
		}
	}
}

// notRead: Read has that fault, and tells no record.
func notRead(t *testing.T, what string, h *shelf.Shelf, w shelf.Where, want api.Fault) {
	t.Helper()
	r, f := h.Read(w)
	if f != want || !isZero(r) {
		t.Errorf("%s: Read of %v: fault %d, not %d", what, w, f, want)
	}
}

// notLoaded: Load has that fault, and tells no record.
func notLoaded(t *testing.T, what string, h *shelf.Shelf, id int, want api.Fault) {
	t.Helper()
	l, f := h.Load(id)
	if f != want || len(l) != 0 {
		t.Errorf("%s: Load(%d): %d records, fault %d, not %d", what, id, len(l), f, want)
	}
}

// holds: the pack is there with just these records.
func holds(t *testing.T, what string, h *shelf.Shelf, s *simfs.FS, id int, l ...frame.Record) {
	t.Helper()
	got, f := h.Load(id)
	_, want := parts(id, l)
	same := slices.EqualFunc(got, found(want, l), func(p frame.Placed, x shelf.Found) bool {
		return p.At == x.W.At && p.Len == x.W.Len && alike(p.R, x.R)
	})
	if f != api.OK || !same {
		t.Errorf("%s: pack %d: %d records of %d, fault %d", what, id, len(got), len(l), f)
	}
	if b, f := s.Read(pack.Name(id)); f != api.OK || !bytes.Equal(b, frames(l...)) {
		t.Errorf("%s: pack %d: bytes of the file are others, fault %d", what, id, f)
	}
}

// walks: Walk tells just these records, and these packs.
func walks(t *testing.T, what string, h *shelf.Shelf, most int, want []shelf.Found, lost ...int) {
	t.Helper()
	got, ids := h.Walk(most)
	if !foundAlike(got, want) {
		t.Errorf("%s: Walk(%d): %d records, not %d, or others", what, most, len(got), len(want))
	}
	if !slices.Equal(ids, lost) {
		t.Errorf("%s: Walk(%d): not loaded: %v, not %v", what, most, ids, lost)
	}
}

// drops: Drop tells so many, and that fault.
func drops(t *testing.T, what string, h *shelf.Shelf, n int, want api.Fault, ids ...int) {
	t.Helper()
	if got, f := h.Drop(ids); got != n || f != want {
		t.Errorf("%s: Drop of %v: %d, fault %d, not %d and %d", what, ids, got, f, n, want)
	}
}
