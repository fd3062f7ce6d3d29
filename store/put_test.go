package store_test

import (
	"maps"
	"testing"

	"hayloft/api"
	"hayloft/sha"
	"hayloft/store"
)

// The chapter's example.
func TestP1202Example(t *testing.T) {
	o := open(t, fresh(t, 500))
	want := sha.New().Sum([]byte{1})
	if sha.Text(want) != "4bf5122f344554c53bde2ebb8cd2b7e3d1600ad631c385a5d7cce23c7785459a" {
		t.Error("SHA-256 of the byte 1")
	}
	for _, body := range [][]byte{nil, {}} {
		if o.Name(store.Object{Kind: 1, Body: body}) != want {
			t.Error("Name of the empty object of Kind 1")
		}
		if h, f := o.Put(store.Object{Kind: 1, Body: body}); h != want || f != api.OK {
			t.Errorf("Put of the empty object of Kind 1: fault %d", f)
		}
	}
	counts(t, "Pending", o.Pending(), 1)
}

func TestP1202Name(t *testing.T) {
	o := open(t, fresh(t, 500))
	for kind := 1; kind <= 9; kind++ {
		for _, size := range []int{0, 1, 54, 55, 62, 63, 64, 1000, 4999, 5000} {
			x := object(kind, size)
			if o.Name(x) != named(x) {
				t.Errorf("kind %d, %d bytes: another name", kind, size)
			}
		}
	}
	for i, x := range noObjects() {
		if o.Name(x) != (api.Hash{}) {
			t.Errorf("no object %d: it has a name", i)
		}
	}
	has(t, "Name puts nothing", o)
	counts(t, "Name puts nothing", o.Pending(), 0)
}

func TestP1202Put(t *testing.T) {
	s := fresh(t, 500)
	o := open(t, s)
	steps := s.Steps()
	var all []store.Object
	for kind := 1; kind <= 9; kind++ {
		for _, size := range []int{0, 1, 64, 5000} {
			x := object(kind, size)
			if o.Has(named(x)) {
				t.Error("it is there ahead of Put")
			}
			puts(t, "put", o, x)
			all = append(all, x)
			counts(t, "Pending", o.Pending(), len(all))
			has(t, "put", o, all...)
		}
	}
	if s.Steps() != steps {
		t.Error("a step was taken")
	}
}

func TestP1202PutOfNoObject(t *testing.T) {
	s := fresh(t, 5000)
	l := objects(4, 5)
	o := holding(t, s, l[:1])
	puts(t, "waits", o, l[1])
	before := snapshot(s)
	for i, x := range noObjects() {
		h, f := o.Put(x)
		if h != (api.Hash{}) || f != api.BadArg {
			t.Errorf("no object %d: fault %d", i, f)
		}
	}
	counts(t, "Pending", o.Pending(), 1)
	has(t, "nothing has changed", o, l...)
	notGot(t, "the zero hash", o, api.NotFound, api.Hash{})
	if !maps.Equal(before, snapshot(s)) {
		t.Error("something was done to the disk")
	}
}

func TestP1202PutTwice(t *testing.T) {
	s := fresh(t, 5000)
	o := open(t, s)
	x, y := object(1, 9), object(2, 9)
	puts(t, "twice", o, x, y, x, x, y)
	counts(t, "of those that wait", o.Pending(), 2)
	flushes(t, "twice", o, 2)
	packsAre(t, "twice", s, 1, []store.Object{x, y})
	before := snapshot(s)
	puts(t, "of those in a pack", o, y, x)
	counts(t, "of those in a pack", o.Pending(), 0)
	flushes(t, "of those in a pack", o, 0)
	p := open(t, s)
	puts(t, "behind another Open", p, x, y)
	counts(t, "behind another Open", p.Pending(), 0)
	if !maps.Equal(before, snapshot(s)) {
		t.Error("something was done to the disk")
	}
	puts(t, "and a new one", p, x, object(3, 9), y)
	counts(t, "and a new one", p.Pending(), 1)
}

// Objects of one Body and of other Kinds are others.
func TestP1202PutOfOtherKinds(t *testing.T) {
	o := open(t, fresh(t, 5000))
	var l []store.Object
	for kind := 1; kind <= 9; kind++ {
		l = append(l, store.Object{Kind: kind, Body: []byte("hay")})
	}
	l = append(l, store.Object{Kind: 1, Body: []byte("ha")}, store.Object{Kind: 1, Body: []byte("\x01hay")}, store.Object{Kind: 1, Body: []byte("hay\x00")})
	puts(t, "kinds", o, l...)
	counts(t, "kinds", o.Pending(), 12)
	flushes(t, "kinds", o, 12)
	has(t, "kinds", o, l...)
}

// That what stands in the pack is spoilt does not make it wait.
func TestP1202PutOfWhatIsSpoilt(t *testing.T) {
	s := fresh(t, 5000)
	x := object(3, 30)
	o := holding(t, s, []store.Object{x})
	ok(t, s.Flip("pack.1", 50, 1))
	puts(t, "spoilt", o, x)
	counts(t, "spoilt", o.Pending(), 0)
	notGot(t, "spoilt", o, api.Corrupt, named(x))
}

func TestP1202PutAndHasWhileDown(t *testing.T) {
	s := fresh(t, 5000)
	l := objects(3, 4, 5)
	o := holding(t, s, l[:1])
	puts(t, "waits", o, l[1])
	goesDown(t, s)
	puts(t, "down", o, l...)
	counts(t, "down", o.Pending(), 2)
	namesAre(t, "down", o, names(l...)...)
	for _, h := range names(l...) {
		if !o.Has(h) {
			t.Error("down: it is not there")
		}
	}
	if o.Has(named(object(9, 9))) || o.Has(api.Hash{}) {
		t.Error("down: what was not put is there")
	}
}

func TestP1202Has(t *testing.T) {
	o := holding(t, fresh(t, 5000), objects(3, 4))
	puts(t, "waits", o, object(7, 7))
	for _, x := range append(objects(3, 4), object(7, 7)) {
		h := named(x)
		if !o.Has(h) {
			t.Error("it is not there")
		}
		for i := range h {
			near := h
			near[i] ^= 1
			if o.Has(near) {
				t.Errorf("a name that is another one at byte %d is there", i)
			}
		}
	}
	if o.Has(api.Hash{}) {
		t.Error("the zero hash is there")
	}
}
