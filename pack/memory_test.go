package pack_test

import (
	"bytes"
	"slices"
	"testing"

	"hayloft/api"
	"hayloft/crc"
	"hayloft/frame"
	"hayloft/pack"
)

// scribble writes into all of b, its spare room too.
func scribble(b []byte) {
	b = b[:cap(b)]
	for i := range b {
		b[i] ^= 0xFF
	}
}

// The body that is handed in is neither changed, nor its spare room, nor kept.
func TestP802AddKeepsNothing(t *testing.T) {
	s := fresh(t, 9000)
	w := begin(t, s, crc.New(), 1)
	room := bytes.Repeat([]byte{0xEE}, 100)
	r := record(3, 20)
	in := r
	in.Body = room[:copy(room, r.Body)]
	add(t, w, in)
	if !alike(in, r) || !bytes.Equal(room[20:], bytes.Repeat([]byte{0xEE}, 80)) {
		t.Error("the body, or its spare room, has changed")
	}
	scribble(in.Body)
	add(t, w, record(4, 4))
	ok(t, w.Seal())
	scribble(in.Body)
	has(t, "written over", s, 1, r, record(4, 4))
}

func TestP804LoadHandsOutNewMemory(t *testing.T) {
	s, c := fresh(t, 9000), crc.New()
	sealedPack(t, s, 1, some()...)
	want := placed(some()...)
	l, f := pack.Load(s, c, 1)
	kept, g := pack.Load(s, c, 1)
	ok(t, f, g)
	for i := range l {
		scribble(l[i].R.Body)
		for k := i + 1; k < len(l); k++ {
			if !alike(l[k].R, want[k].R) {
				t.Errorf("records %d and %d share memory", i, k)
			}
		}
	}
	for i := range l[:cap(l)] {
		l[:cap(l)][i] = frame.Placed{At: 77}
	}
	if !placedAlike(kept, want) {
		t.Error("two answers share memory")
	}
	has(t, "written over", s, 1, some()...)
}

func TestP804GetHandsOutNewMemory(t *testing.T) {
	s, c := fresh(t, 9000), crc.New()
	sealedPack(t, s, 1, some()...)
	r, f := pack.Get(s, c, 1, 0)
	kept, g := pack.Get(s, c, 1, 0)
	ok(t, f, g)
	scribble(r.Body)
	if !alike(kept, some()[0]) {
		t.Error("two answers share memory")
	}
	has(t, "written over", s, 1, some()...)
}

func TestP805ListsAreNewMemory(t *testing.T) {
	s := fresh(t, 9000)
	names, ids, temps := mixed()
	for _, name := range names {
		ok(t, s.Create(name))
	}
	gotIDs, gotTemps := pack.IDs(s), pack.Temps(s)
	keptIDs, keptTemps := pack.IDs(s), pack.Temps(s)
	for i := range gotIDs[:cap(gotIDs)] {
		gotIDs[:cap(gotIDs)][i] = -1
	}
	for i := range gotTemps[:cap(gotTemps)] {
		gotTemps[:cap(gotTemps)][i] = "gone"
	}
	if !slices.Equal(keptIDs, ids) || !slices.Equal(keptTemps, temps) {
		t.Error("two answers share memory")
	}
	tells(t, "written over", s, ids, temps)
}

// What was handed out stays as it is, whatever becomes of the file system.
func TestP804AnswersStay(t *testing.T) {
	s, c := fresh(t, 9000), crc.New()
	sealedPack(t, s, 1, some()...)
	l, f := pack.Load(s, c, 1)
	r, g := pack.Get(s, c, 1, 0)
	ok(t, f, g)
	for at := range len(laid(some()...)) {
		ok(t, s.Flip("pack.1", at, 0xFF))
	}
	ok(t, pack.Drop(s, 1))
	sealedPack(t, s, 1, record(9, 900))
	if !placedAlike(l, placed(some()...)) || !alike(r, some()[0]) {
		t.Error("an answer has changed with the file system")
	}
}

// Writers of two file systems with one table, and of a copy, share nothing else.
func TestP802WritersShareNothing(t *testing.T) {
	c := crc.New()
	s := fresh(t, 9000)
	a := begin(t, s, c, 1)
	add(t, a, record(1, 1))
	other := s.Copy()
	if _, f := pack.Begin(other, c, 1); f != api.Exists {
		t.Errorf("Begin in the copy: fault %d", f)
	}
	ok(t, other.Remove("tmp.1"))
	b := begin(t, other, c, 1)
	add(t, b, record(2, 2))
	add(t, a, record(3, 3))
	ok(t, b.Seal())
	far(t, "the first", a, 102, 2)
	far(t, "the second", b, 51, 1)
	ok(t, a.Seal())
	has(t, "the first", s, 1, record(1, 1), record(3, 3))
	has(t, "the second", other, 1, record(2, 2))
}
