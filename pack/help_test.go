package pack_test

import (
	"bytes"
	"hash/crc32"
	"slices"
	"testing"

	"hayloft/api"
	"hayloft/crc"
	"hayloft/frame"
	"hayloft/pack"
	"hayloft/simfs"
)

// fresh: a file system of so much room.
func fresh(t *testing.T, room int) *simfs.FS {
	t.Helper()
	s, f := simfs.New(room)
	if s == nil || f != api.OK {
		t.Fatalf("New(%d): fault %d", room, f)
	}
	return s
}

// ok: none of the calls has a fault.
func ok(t *testing.T, l ...api.Fault) {
	t.Helper()
	for i, f := range l {
		if f != api.OK {
			t.Fatalf("call %d: fault %d", i, f)
		}
	}
}

// is: the fault is that one.
func is(t *testing.T, what string, got, want api.Fault) {
	t.Helper()
	if got != want {
		t.Errorf("%s: fault %d, not %d", what, got, want)
	}
}

// safeFile: a new one with these bytes, all of which are safe, its name too.
func safeFile(t *testing.T, s *simfs.FS, name string, b []byte) {
	t.Helper()
	ok(t, s.Create(name), s.Append(name, b), s.Fsync(name), s.SyncDir())
}

// sees: the names that are seen are just these, rising.
func sees(t *testing.T, what string, s *simfs.FS, want ...string) {
	t.Helper()
	if got := s.List(); !slices.Equal(got, want) {
		t.Errorf("%s: %q, not %q", what, got, want)
	}
}

// begin: a writer of a pack.
func begin(t *testing.T, s *simfs.FS, c *crc.Table, id int) *pack.Writer {
	t.Helper()
	w, f := pack.Begin(s, c, id)
	if w == nil || f != api.OK {
		t.Fatalf("Begin(%d): fault %d", id, f)
	}
	return w
}

// add: each is laid, one behind the other.
func add(t *testing.T, w *pack.Writer, l ...frame.Record) {
	t.Helper()
	for i, r := range l {
		want := w.Size()
		if at, f := w.Add(r); at != want || f != api.OK {
			t.Fatalf("Add of record %d: %d, not %d, fault %d", i, at, want, f)
		}
	}
}

// sealedPack: a pack with these records, sealed.
func sealedPack(t *testing.T, s *simfs.FS, id int, l ...frame.Record) {
	t.Helper()
	w := begin(t, s, crc.New(), id)
	add(t, w, l...)
	ok(t, w.Seal())
}

// far: the writer has so many bytes and records.
func far(t *testing.T, what string, w *pack.Writer, size, count int) {
	t.Helper()
	if w.Size() != size || w.Count() != count {
		t.Errorf("%s: Size %d, Count %d, not %d and %d", what, w.Size(), w.Count(), size, count)
	}
}

// record: one whose body has so many bytes; its frame has 49 more.
func record(kind, size int) frame.Record {
	r := frame.Record{Kind: kind, Body: make([]byte, size)}
	for i := range r.Body {
		r.Body[i] = byte(i*7 + kind)
	}
	for i := range r.Name {
		r.Name[i] = byte(size + i)
	}
	return r
}

// some: records of several sizes, an empty one among them.
func some() []frame.Record {
	return []frame.Record{record(1, 5), record(9, 0), record(4, 300), record(2, 1)}
}

// framed: a right record's frame by the words of the chapters.
func framed(r frame.Record) []byte {
	b := []byte{1, 0, 1, byte(r.Kind), 2, 0, 32}
	b = append(b, r.Name[:]...)
	b = append(b, 2, byte(len(r.Body)>>8), byte(len(r.Body)))
	b = append(b, r.Body...)
	b = append([]byte{3, byte(len(b) >> 8), byte(len(b))}, b...)
	return closed(b)
}

// closed: b, and its sum in four bytes, the lowest first.
func closed(b []byte) []byte {
	s := crc32.Checksum(b, crc32.MakeTable(crc32.Castagnoli))
	return append(bytes.Clone(b), byte(s), byte(s>>8), byte(s>>16), byte(s>>24))
}

// laid: the frames of all, one behind the other.
func laid(l ...frame.Record) []byte {
	var b []byte
	for _, r := range l {
		b = append(b, framed(r)...)
	}
	return b
}

// placed: where each record stands, if they are laid one behind the other.
func placed(l ...frame.Record) []frame.Placed {
	var p []frame.Placed
	at := 0
	for _, r := range l {
		n := len(framed(r))
		p = append(p, frame.Placed{At: at, Len: n, R: r})
		at += n
	}
	return p
}

func alike(a, b frame.Record) bool {
	return a.Kind == b.Kind && a.Name == b.Name && bytes.Equal(a.Body, b.Body)
}

func placedAlike(a, b []frame.Placed) bool {
	return slices.EqualFunc(a, b, func(x, y frame.Placed) bool {
		return x.At == y.At && x.Len == y.Len && alike(x.R, y.R)
	})
}

func isZero(r frame.Record) bool {
	return r.Kind == 0 && r.Name == api.Hash{} && r.Body == nil
}

// has: the pack is there with just these records.
func has(t *testing.T, what string, s *simfs.FS, id int, l ...frame.Record) {
	t.Helper()
	got, f := pack.Load(s, crc.New(), id)
	if f != api.OK || !placedAlike(got, placed(l...)) {
		t.Errorf("%s: pack %d: %d records of %d, fault %d", what, id, len(got), len(l), f)
	}
	for i, p := range placed(l...) {
		if r, f := pack.Get(s, crc.New(), id, p.At); f != api.OK || !alike(r, p.R) {
			t.Errorf("%s: pack %d: record %d: fault %d", what, id, i, f)
		}
	}
	if b, f := s.Read(pack.Name(id)); f != api.OK || !bytes.Equal(b, laid(l...)) {
		t.Errorf("%s: pack %d: bytes of the file are others, fault %d", what, id, f)
	}
}
