package shelf_test

import (
	"bytes"
	"slices"
	"testing"

	"hayloft/api"
	"hayloft/frame"
	"hayloft/shelf"
)

// scribble writes into all of b, its spare room too.
func scribble(b []byte) {
	b = b[:cap(b)]
	for i := range b {
		b[i] ^= 0xFF
	}
}

// fill writes x into all of l, its spare room too.
func fill[T any](l []T, x T) {
	l = l[:cap(l)]
	for i := range l {
		l[i] = x
	}
}

// roomy: these records in a list with spare room, with bodies that have some.
func roomy(l []frame.Record) []frame.Record {
	out := make([]frame.Record, 0, len(l)+3)
	for _, r := range l {
		r.Body = append(bytes.Clone(r.Body), bytes.Repeat([]byte{0xEE}, 8)...)[:len(r.Body)]
		out = append(out, r)
	}
	fill(out[len(out):], frame.Record{Kind: 77})
	return out
}

// untouched: in is as roomy made it of l.
func untouched(t *testing.T, what string, in, l []frame.Record) {
	t.Helper()
	if !slices.EqualFunc(in, l, alike) {
		t.Errorf("%s: the records have changed", what)
	}
	for _, r := range in {
		if !bytes.Equal(r.Body[len(r.Body):len(r.Body)+8], bytes.Repeat([]byte{0xEE}, 8)) {
			t.Errorf("%s: a body's spare room has changed", what)
		}
	}
	for _, r := range in[len(in) : len(in)+3] {
		if r.Kind != 77 {
			t.Errorf("%s: the list's spare room has changed", what)
		}
	}
}

// What is laid is neither changed nor kept.
func TestP902LayKeepsNothing(t *testing.T) {
	l := records(5000, 5000, 1853, 5000, 0, 20)
	s := fresh(t, api.MaxDisk)
	h := open(t, s)
	in := roomy(l)
	needs(t, "roomy", in, 2, size(l...), api.OK)
	untouched(t, "Need", in, l)
	places := lays(t, "roomy", h, in...)
	if w, f := h.Lay(in); f != api.OK || len(w) != len(l) {
		t.Fatalf("Lay: fault %d", f)
	}
	untouched(t, "Lay", in, l)
	for i := range in {
		scribble(in[i].Body)
	}
	fill(in, frame.Record{})
	reads(t, "written over", h, places, l...)

	in = roomy(l)
	full := open(t, fresh(t, 14000))
	notLaid(t, "no room", full, in, api.NoSpace)
	notLaid(t, "not right", h, append(slices.Clone(in), record(0, 0)), api.BadArg)
	untouched(t, "a Lay that fails", in, l)
}

func TestP902PlacesAreNewMemory(t *testing.T) {
	s := fresh(t, api.MaxDisk)
	h := open(t, s)
	l := records(1, 2, 3)
	first := lays(t, "first", h, l...)
	want := slices.Clone(first)
	fill(first, shelf.Where{Pack: 77})
	second := lays(t, "second", h, l...)
	reads(t, "written over", h, want, l...)
	fill(first, shelf.Where{Pack: 78})
	reads(t, "another answer", h, second, l...)
	stands(t, "written over", h, 3, 1, 2)
}

func TestP901IDsAreNewMemory(t *testing.T) {
	h, _ := fivePacks(t)
	ids := h.IDs()
	fill(ids, 99)
	stands(t, "written over", h, 6, 1, 2, 3, 4, 5)
	kept := h.IDs()
	fill(h.IDs(), -1)
	if !slices.Equal(kept, []int{1, 2, 3, 4, 5}) {
		t.Errorf("two answers share memory: %v", kept)
	}
	h.Next()
	fill(kept[len(kept):], 99)
	stands(t, "spare room written over", h, 6, 1, 2, 3, 4, 5)
}

func TestP903ReadAndLoadHandOutNewMemory(t *testing.T) {
	s := fresh(t, 9000)
	h := open(t, s)
	l := records(10, 20, 30)
	places := lays(t, "three", h, l...)
	r, f := h.Read(places[1])
	kept, g := h.Read(places[1])
	ok(t, f, g)
	scribble(r.Body)
	if !alike(kept, l[1]) {
		t.Error("two answers of Read share memory")
	}
	p, f := h.Load(1)
	ok(t, f)
	scribble(p[0].R.Body)
	if !alike(p[1].R, l[1]) || !alike(p[2].R, l[2]) {
		t.Error("records of one answer share memory")
	}
	fill(p, frame.Placed{At: 77})
	reads(t, "written over", h, places, l...)
	holds(t, "written over", h, s, 1, l...)
}

func TestP903WalkHandsOutNewMemory(t *testing.T) {
	h, _, want := broken(t)
	x, lost := h.Walk(99)
	kept, keptLost := h.Walk(99)
	for i := range x {
		scribble(x[i].R.Body)
		for k := i + 1; k < len(x); k++ {
			if !alike(x[k].R, want[k].R) {
				t.Errorf("records %d and %d share memory", i, k)
			}
		}
	}
	fill(x, shelf.Found{})
	fill(lost, 99)
	if !foundAlike(kept, want) || !slices.Equal(keptLost, []int{2, 4, 5, 7, 9}) {
		t.Error("two answers share memory")
	}
	walks(t, "written over", h, 99, want, 2, 4, 5, 7, 9)
}

func TestP904DropKeepsNothing(t *testing.T) {
	h, _ := fivePacks(t)
	room := []int{2, 4, 99, 98}
	ids := room[:2]
	if n, f := h.Drop(ids); n != 2 || f != api.OK {
		t.Errorf("%d, fault %d", n, f)
	}
	if !slices.Equal(room, []int{2, 4, 99, 98}) {
		t.Errorf("what was handed in: %v", room)
	}
	fill(ids, 1)
	stands(t, "written over", h, 6, 1, 3, 5)
}

// What was handed out stays as it is, whatever becomes of the file system.
func TestP903AnswersStay(t *testing.T) {
	h, s, want := broken(t)
	x, lost := h.Walk(99)
	r, f := h.Read(want[0].W)
	ids := h.IDs()
	ok(t, f)
	for at := range 101 {
		ok(t, s.Flip("pack.1", at, 0xFF))
	}
	drops(t, "all others", h, 8, api.OK, 2, 3, 4, 5, 6, 7, 9, 10)
	lays(t, "another", h, records(300)...)
	if !foundAlike(x, want) || !alike(r, want[0].R) || !slices.Equal(lost, []int{2, 4, 5, 7, 9}) || len(ids) != 9 {
		t.Error("an answer has changed with the file system")
	}
}
