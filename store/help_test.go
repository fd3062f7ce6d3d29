package store_test

import (
	"bytes"
	"crypto/sha256"
	"encoding/binary"
	"hash/crc32"
	"math"
	"slices"
	"strconv"
	"strings"
	"testing"

	"hayloft/api"
	"hayloft/crc"
	"hayloft/frame"
	"hayloft/index"
	"hayloft/segment"
	"hayloft/shelf"
	"hayloft/simfs"
	"hayloft/store"
)

// fresh: a file system of so much room.
func fresh(t *testing.T, room int) *simfs.FS {
	t.Helper()
	s, f := simfs.New(room)
	if s == nil || f != api.OK {
		t.Fatalf("New(%d): fault %d", room, f)
	}
	return s
}

// open: a store over s.
func open(t *testing.T, s *simfs.FS) *store.Store {
	t.Helper()
	o, f := store.Open(s)
	if o == nil || f != api.OK {
		t.Fatalf("Open: fault %d", f)
	}
	return o
}

// notOpened: Open has that fault, and tells no store.
func notOpened(t *testing.T, what string, s *simfs.FS, want api.Fault) {
	t.Helper()
	o, f := store.Open(s)
	is(t, what+": Open", f, want)
	if o != nil {
		t.Errorf("%s: Open: a store beside a fault", what)
	}
}

// ok: none of the calls has a fault.
func ok(t *testing.T, l ...api.Fault) {
	t.Helper()
	for i, f := range l {
		if f != api.OK {
			t.Fatalf("call %d: fault %d", i, f)
		}
	}
}

// is: the fault is that one.
func is(t *testing.T, what string, got, want api.Fault) {
	t.Helper()
	if got != want {
		t.Errorf("%s: fault %d, not %d", what, got, want)
	}
}

// counts: the number is that one.
func counts(t *testing.T, what string, got, want int) {
	t.Helper()
	if got != want {
		t.Errorf("%s: %d, not %d", what, got, want)
	}
}

// goesDown: the next step finds the file system down.
func goesDown(t *testing.T, s *simfs.FS) {
	t.Helper()
	ok(t, s.Arm(0))
	is(t, "a step too many", s.SyncDir(), api.Down)
}

// put: a file of that name, in place of what has it, all of it safe.
func put(t *testing.T, s *simfs.FS, name string, b []byte) {
	t.Helper()
	s.Remove(name)
	ok(t, s.Create(name), s.Append(name, b), s.Fsync(name), s.SyncDir())
}

// sees: the names of files that are seen are just these, rising.
func sees(t *testing.T, what string, s *simfs.FS, want ...string) {
	t.Helper()
	if got := s.List(); !slices.Equal(got, want) {
		t.Errorf("%s: %q, not %q", what, got, want)
	}
}

// file: the bytes of a file; nil: there is none.
func file(s *simfs.FS, name string) []byte {
	b, f := s.Read(name)
	if f != api.OK {
		return nil
	}
	return append([]byte{}, b...)
}

// object: one whose body has so many bytes; of the same kind and size always the same.
func object(kind, size int) store.Object {
	x := store.Object{Kind: kind, Body: make([]byte, size)}
	for i := range x.Body {
		x.Body[i] = byte(i*7 + kind + size)
	}
	return x
}

// objects: of these sizes, each of another kind than the one ahead.
func objects(sizes ...int) []store.Object {
	var l []store.Object
	for i, size := range sizes {
		l = append(l, object(1+i%9, size))
	}
	return l
}

// small: n objects of two bytes each, no two the same.
func small(n int) []store.Object {
	var l []store.Object
	for i := range n {
		l = append(l, store.Object{Kind: 5, Body: []byte{byte(i >> 8), byte(i)}})
	}
	return l
}

// noObjects: what is no object, by its kind or its size.
func noObjects() []store.Object {
	return []store.Object{
		{}, object(0, 3), object(-1, 3), object(10, 3), object(11, 0), object(257, 1), object(265, 2), object(math.MaxInt, 0), object(math.MinInt, 0),
		object(1, api.MaxObject+1), object(9, api.MaxObject+1), object(5, 70000), object(0, api.MaxObject+1), object(10, api.MaxObject),
	}
}

// named: an object's name by the chapter's words.
func named(x store.Object) api.Hash {
	return sha256.Sum256(append([]byte{byte(x.Kind)}, x.Body...))
}

// names: those of all, in order.
func names(l ...store.Object) []api.Hash {
	var out []api.Hash
	for _, x := range l {
		out = append(out, named(x))
	}
	return out
}

// inOrder: the names, rising, each once.
func inOrder(l []api.Hash) []api.Hash {
	met := map[api.Hash]int{}
	for _, h := range l {
		met[h]++
	}
	var out []api.Hash
	for h := range met {
		out = append(out, h)
	}
	slices.SortFunc(out, func(a, b api.Hash) int { return bytes.Compare(a[:], b[:]) })
	return out
}

// byName: the objects, their names rising, each once.
func byName(l ...store.Object) []store.Object {
	of := map[api.Hash]store.Object{}
	for _, x := range l {
		of[named(x)] = x
	}
	var out []store.Object
	for _, h := range inOrder(names(l...)) {
		out = append(out, of[h])
	}
	return out
}

// record: an object's, by the chapter's words.
func record(x store.Object) frame.Record {
	return frame.Record{Kind: x.Kind, Name: named(x), Body: x.Body}
}

// framed: a record's frame by the words of the chapters.
func framed(r frame.Record) []byte {
	b := []byte{1, 0, 1, byte(r.Kind), 2, 0, 32}
	b = append(b, r.Name[:]...)
	b = append(b, 2, byte(len(r.Body)>>8), byte(len(r.Body)))
	b = append(b, r.Body...)
	b = append([]byte{3, byte(len(b) >> 8), byte(len(b))}, b...)
	s := crc32.Checksum(b, crc32.MakeTable(crc32.Castagnoli))
	return binary.LittleEndian.AppendUint32(b, s)
}

// frames: those of the objects' records, one behind the other.
func frames(l ...store.Object) []byte {
	var b []byte
	for _, x := range l {
		b = append(b, framed(record(x))...)
	}
	return b
}

// parts: which objects each pack has: the next one begins where a frame is more than what is
// left of 12000 bytes.
func parts(l ...store.Object) (packs [][]store.Object) {
	left := 0
	for _, x := range l {
		n := 49 + len(x.Body)
		if n > left {
			packs = append(packs, nil)
			left = 12000
		}
		last := len(packs) - 1
		packs[last] = append(packs[last], x)
		left -= n
	}
	return packs
}

// packName: of the pack of that id.
func packName(id int) string { return "pack." + strconv.Itoa(id) }

// packsOf: the names of packs that are seen.
func packsOf(s *simfs.FS) []string {
	return slices.DeleteFunc(s.List(), func(x string) bool { return !strings.HasPrefix(x, "pack.") })
}

// packsAre: the packs from id on are seen with just these objects, in order.
func packsAre(t *testing.T, what string, s *simfs.FS, id int, packs ...[]store.Object) {
	t.Helper()
	for i, l := range packs {
		if !bytes.Equal(file(s, packName(id+i)), frames(l...)) {
			t.Errorf("%s: pack %d has other bytes", what, id+i)
		}
	}
}

// indexed: the file "index" tells just the objects of these packs, from id on.
func indexed(t *testing.T, what string, s *simfs.FS, id int, packs ...[]store.Object) {
	t.Helper()
	var want []segment.Entry
	for i, l := range packs {
		at := 0
		for _, x := range l {
			n := 49 + len(x.Body)
			want = append(want, segment.Entry{Name: named(x), W: shelf.Where{Pack: id + i, At: at, Len: n}})
			at += n
		}
	}
	slices.SortFunc(want, func(a, b segment.Entry) int { return bytes.Compare(a.Name[:], b.Name[:]) })
	got, f := index.Load(s, crc.New())
	is(t, what+": the index", f, api.OK)
	if !slices.Equal(got, want) {
		t.Errorf("%s: the index: %v, not %v", what, got, want)
	}
}

func alike(a, b store.Object) bool {
	return a.Kind == b.Kind && bytes.Equal(a.Body, b.Body)
}

func isZero(x store.Object) bool {
	return x.Kind == 0 && x.Body == nil
}

// puts: each of l is put, under its name.
func puts(t *testing.T, what string, o *store.Store, l ...store.Object) {
	t.Helper()
	for i, x := range l {
		h, f := o.Put(x)
		if f != api.OK || h != named(x) {
			t.Errorf("%s: Put of object %d: fault %d, or another name", what, i, f)
		}
	}
}

// gets: each of l is there, and got by its name.
func gets(t *testing.T, what string, o *store.Store, l ...store.Object) {
	t.Helper()
	for i, want := range l {
		x, f := o.Get(named(want))
		if f != api.OK || !alike(x, want) {
			t.Errorf("%s: Get of object %d: kind %d, %d bytes, fault %d", what, i, x.Kind, len(x.Body), f)
		}
		if !o.Has(named(want)) {
			t.Errorf("%s: Has of object %d", what, i)
		}
	}
}

// notGot: Get of these names has that fault, and tells no object; Has tells whether they are there.
func notGot(t *testing.T, what string, o *store.Store, want api.Fault, l ...api.Hash) {
	t.Helper()
	for i, h := range l {
		x, f := o.Get(h)
		if f != want || !isZero(x) {
			t.Errorf("%s: Get of name %d: kind %d, %d bytes, fault %d, not %d", what, i, x.Kind, len(x.Body), f, want)
		}
		if o.Has(h) != (want != api.NotFound && want != api.Nil) {
			t.Errorf("%s: Has of name %d: %v", what, i, o.Has(h))
		}
	}
}

// flushes: Flush tells so many, and nothing waits behind it.
func flushes(t *testing.T, what string, o *store.Store, want int) {
	t.Helper()
	n, f := o.Flush()
	if n != want || f != api.OK {
		t.Errorf("%s: Flush: %d, fault %d, not %d", what, n, f, want)
	}
	counts(t, what+": Pending", o.Pending(), 0)
}

// notFlushed: Flush has that fault, and all of l still wait, nothing else does.
func notFlushed(t *testing.T, what string, o *store.Store, want api.Fault, l ...store.Object) {
	t.Helper()
	n, f := o.Flush()
	if n != 0 || f != want {
		t.Errorf("%s: Flush: %d, fault %d, not %d", what, n, f, want)
	}
	counts(t, what+": Pending", o.Pending(), len(l))
	gets(t, what, o, l...)
}

// replaces: Replace drops so many packs.
func replaces(t *testing.T, what string, o *store.Store, keep []api.Hash, want int) {
	t.Helper()
	n, f := o.Replace(keep)
	if n != want || f != api.OK {
		t.Errorf("%s: Replace: %d, fault %d, not %d", what, n, f, want)
	}
}

// notReplaced: Replace has that fault, and tells no number beside it.
func notReplaced(t *testing.T, what string, o *store.Store, keep []api.Hash, want api.Fault) {
	t.Helper()
	n, f := o.Replace(keep)
	if n != 0 || f != want {
		t.Errorf("%s: Replace: %d, fault %d, not %d", what, n, f, want)
	}
}

// has: the store has just these objects, and gets each.
func has(t *testing.T, what string, o *store.Store, l ...store.Object) {
	t.Helper()
	namesAre(t, what, o, names(l...)...)
	gets(t, what, o, l...)
}

// namesAre: Names tells just these, rising, each once.
func namesAre(t *testing.T, what string, o *store.Store, want ...api.Hash) {
	t.Helper()
	if got := o.Names(); !slices.Equal(got, inOrder(want)) {
		t.Errorf("%s: %d names, not %d, or others", what, len(got), len(inOrder(want)))
	}
}

// spoilt: Verify tells just these, rising.
func spoilt(t *testing.T, what string, o *store.Store, want ...api.Hash) {
	t.Helper()
	if got := o.Verify(); !slices.Equal(got, inOrder(want)) {
		t.Errorf("%s: Verify: %d names, not %d, or others", what, len(got), len(want))
	}
}

// holding: a store over s in which each list was put and flushed, one behind the other.
func holding(t *testing.T, s *simfs.FS, lists ...[]store.Object) *store.Store {
	t.Helper()
	o := open(t, s)
	for _, l := range lists {
		puts(t, "holding", o, l...)
		flushes(t, "holding", o, len(l))
	}
	return o
}

// snapshot: all that is seen of a file system.
func snapshot(s *simfs.FS) map[string]string {
	m := map[string]string{}
	for _, name := range s.List() {
		m[name] = string(file(s, name))
	}
	return m
}

// moved: a file system of that room with all files of s, all safe.
func moved(t *testing.T, s *simfs.FS, room int) *simfs.FS {
	t.Helper()
	other := fresh(t, room)
	for _, name := range s.List() {
		put(t, other, name, file(s, name))
	}
	return other
}
