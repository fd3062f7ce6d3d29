package index_test

import (
	"bytes"
	"encoding/binary"
	"hash/crc32"
	"math/big"
	"slices"
	"testing"

	"hayloft/api"
	"hayloft/crc"
	"hayloft/frame"
	"hayloft/index"
	"hayloft/segment"
	"hayloft/shelf"
	"hayloft/simfs"
)

// fresh: a file system of so much room.
func fresh(t *testing.T, room int) *simfs.FS {
	t.Helper()
	s, f := simfs.New(room)
	if s == nil || f != api.OK {
		t.Fatalf("New(%d): fault %d", room, f)
	}
	return s
}

// shelved: a shelf over s, with a table of its own.
func shelved(t *testing.T, s *simfs.FS) *shelf.Shelf {
	t.Helper()
	h, f := shelf.Open(s, crc.New())
	if h == nil || f != api.OK {
		t.Fatalf("shelf's Open: fault %d", f)
	}
	return h
}

// ok: none of the calls has a fault.
func ok(t *testing.T, l ...api.Fault) {
	t.Helper()
	for i, f := range l {
		if f != api.OK {
			t.Fatalf("call %d: fault %d", i, f)
		}
	}
}

// is: the fault is that one.
func is(t *testing.T, what string, got, want api.Fault) {
	t.Helper()
	if got != want {
		t.Errorf("%s: fault %d, not %d", what, got, want)
	}
}

// goesDown: the next step finds the file system down.
func goesDown(t *testing.T, s *simfs.FS) {
	t.Helper()
	ok(t, s.Arm(0))
	is(t, "a step too many", s.SyncDir(), api.Down)
}

// put: a file of that name, in place of what has it, all of it safe.
func put(t *testing.T, s *simfs.FS, name string, b []byte) {
	t.Helper()
	s.Remove(name)
	ok(t, s.Create(name), s.Append(name, b), s.Fsync(name), s.SyncDir())
}

// sees: the names that are seen are just these, rising.
func sees(t *testing.T, what string, s *simfs.FS, want ...string) {
	t.Helper()
	if got := s.List(); !slices.Equal(got, want) {
		t.Errorf("%s: %q, not %q", what, got, want)
	}
}

// file: the bytes of a file; nil: there is none.
func file(s *simfs.FS, name string) []byte {
	b, f := s.Read(name)
	if f != api.OK {
		return nil
	}
	return append([]byte{}, b...)
}

// named: a name whose first bytes are n, the highest first: names rise with n.
func named(n int) (h api.Hash) {
	binary.BigEndian.PutUint32(h[:], uint32(n))
	h[31] = 7
	return h
}

// one: an entry of the name of n, at that place.
func one(n, pack, at, size int) segment.Entry {
	return segment.Entry{Name: named(n), W: shelf.Where{Pack: pack, At: at, Len: size}}
}

// rising: n right entries, of the names of 2, 4, 6 and so on.
func rising(n int) []segment.Entry {
	var l []segment.Entry
	for i := 1; i <= n; i++ {
		l = append(l, one(2*i, 1+i*1111%999999, i*13%12001, 1+i*7%12000))
	}
	return l
}

// wrongLists: lists that are not right, by their length, their names or a place.
func wrongLists() map[string][]segment.Entry {
	m := wrongPlaces()
	l := rising(3)
	m["901"] = rising(901)
	m["1200"] = rising(1200)
	m["a name twice"] = []segment.Entry{l[0], l[1], l[1]}
	m["the zero name twice"] = []segment.Entry{{W: l[0].W}, {W: l[1].W}}
	m["falling"] = []segment.Entry{l[1], l[0]}
	m["falling at the end"] = []segment.Entry{l[0], l[2], l[1]}
	return m
}

// wrongPlaces: lists that are not right, in whichever order.
func wrongPlaces() map[string][]segment.Entry {
	last := rising(900)
	last[899].W.Pack = 0
	return map[string][]segment.Entry{
		"the zero entry":    {{}},
		"no pack":           {one(1, 0, 1, 1)},
		"a pack below":      {one(1, -1, 1, 1)},
		"a pack too great":  {one(1, 1000000, 1, 1)},
		"At below 0":        {one(1, 1, -1, 1)},
		"At too great":      {one(1, 1, 12001, 1)},
		"Len 0":             {one(1, 1, 1, 0)},
		"Len below 0":       {one(1, 1, 1, -9)},
		"Len too great":     {one(1, 1, 1, 12001)},
		"the second of two": {one(1, 1, 1, 1), one(2, 0, 1, 1)},
		"the last of 900":   last,
	}
}

// form: a tag, how many bytes there are, and they.
func form(tag byte, in ...[]byte) []byte {
	b := bytes.Join(in, nil)
	return append([]byte{tag, byte(len(b) >> 8), byte(len(b))}, b...)
}

// num: a number's form, by its own bytes, the highest first.
func num(n int) []byte {
	return form(1, big.NewInt(int64(n)).Bytes())
}

// listForm: the list of all entries' lists, right or not.
func listForm(l ...segment.Entry) []byte {
	var in [][]byte
	for _, e := range l {
		in = append(in, form(3, form(2, e.Name[:]), num(e.W.Pack), num(e.W.At), num(e.W.Len)))
	}
	return form(3, in...)
}

// sealed: b, and its sum in four bytes, the lowest first.
func sealed(b []byte) []byte {
	s := crc32.Checksum(b, crc32.MakeTable(crc32.Castagnoli))
	return binary.LittleEndian.AppendUint32(bytes.Clone(b), s)
}

// saved: the bytes that entries are saved as, by the words of the chapters.
func saved(l ...segment.Entry) []byte {
	return sealed(listForm(l...))
}

// records: one of each of these names; their bodies have 0, 1, 2, .. bytes, their frames 49 more.
func records(names ...int) []frame.Record {
	var l []frame.Record
	for i, n := range names {
		l = append(l, frame.Record{Kind: 1 + i%9, Name: named(n), Body: make([]byte, i)})
	}
	return l
}

// many: n records of names that fall, without a body.
func many(n int) []frame.Record {
	var l []frame.Record
	for i := range n {
		l = append(l, frame.Record{Kind: 1, Name: named(5000 - i)})
	}
	return l
}

// lays: all of l, into packs from the next on; where each stands.
func lays(t *testing.T, h *shelf.Shelf, l []frame.Record) []segment.Entry {
	t.Helper()
	places, f := h.Lay(l)
	ok(t, f)
	var out []segment.Entry
	for i, w := range places {
		out = append(out, segment.Entry{Name: l[i].Name, W: w})
	}
	return out
}

// byName: of each name the first one, and then by names.
func byName(l ...segment.Entry) []segment.Entry {
	first := map[api.Hash]segment.Entry{}
	for _, e := range slices.Backward(l) {
		first[e.Name] = e
	}
	var out []segment.Entry
	for _, e := range first {
		out = append(out, e)
	}
	slices.SortFunc(out, func(a, b segment.Entry) int { return bytes.Compare(a.Name[:], b.Name[:]) })
	return out
}

// are: the entries are just these; no entry may be nil or empty.
func are(t *testing.T, what string, got []segment.Entry, want ...segment.Entry) {
	t.Helper()
	if !slices.Equal(got, want) {
		t.Errorf("%s: %d entries, not %d, or others", what, len(got), len(want))
	}
}

// loads: the file "index" tells just these.
func loads(t *testing.T, what string, s *simfs.FS, want ...segment.Entry) {
	t.Helper()
	l, f := index.Load(s, crc.New())
	is(t, what+": Load", f, api.OK)
	are(t, what+": Load", l, want...)
}

// notLoaded: Load has that fault, and tells no entry.
func notLoaded(t *testing.T, what string, s *simfs.FS, want api.Fault) {
	t.Helper()
	l, f := index.Load(s, crc.New())
	is(t, what+": Load", f, want)
	if len(l) != 0 {
		t.Errorf("%s: Load: %d entries beside a fault", what, len(l))
	}
}

// opens: Open over s tells whether it was rebuilt, as is said, and just these entries.
func opens(t *testing.T, what string, s *simfs.FS, rebuilt bool, want ...segment.Entry) *index.Index {
	t.Helper()
	x, re, f := index.Open(s, crc.New(), shelved(t, s))
	if f != api.OK || x == nil {
		t.Fatalf("%s: Open: fault %d", what, f)
	}
	if re != rebuilt {
		t.Errorf("%s: Open: rebuilt %v", what, re)
	}
	holds(t, what, x, want...)
	loads(t, what, s, want...)
	return x
}

// notOpened: Open has that fault, and tells nothing else.
func notOpened(t *testing.T, what string, s *simfs.FS, h *shelf.Shelf, want api.Fault) {
	t.Helper()
	x, re, f := index.Open(s, crc.New(), h)
	is(t, what+": Open", f, want)
	if x != nil || re {
		t.Errorf("%s: Open: an index %v, rebuilt %v beside a fault", what, x != nil, re)
	}
}

// holds: the index has just these entries, in this order.
func holds(t *testing.T, what string, x *index.Index, want ...segment.Entry) {
	t.Helper()
	are(t, what+": All", x.All(), want...)
	if x.Len() != len(want) {
		t.Errorf("%s: Len %d, not %d", what, x.Len(), len(want))
	}
	for _, e := range want {
		if w, is := x.Find(e.Name); w != e.W || !is {
			t.Errorf("%s: Find: %v, %v, not %v", what, w, is, e.W)
		}
	}
}

// misses: the index has no entry of that name.
func misses(t *testing.T, what string, x *index.Index, names ...api.Hash) {
	t.Helper()
	for _, h := range names {
		if w, is := x.Find(h); w != (shelf.Where{}) || is {
			t.Errorf("%s: Find: %v, %v", what, w, is)
		}
	}
}
