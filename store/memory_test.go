package store_test

import (
	"bytes"
	"slices"
	"testing"

	"hayloft/api"
	"hayloft/store"
)

// fill writes x into all of l, its spare room too.
func fill[T any](l []T, x T) {
	l = l[:cap(l)]
	for i := range l {
		l[i] = x
	}
}

// roomy: l with spare room behind it, which x fills.
func roomy[T any](l []T, x T) []T {
	out := make([]T, len(l), len(l)+4)
	copy(out, l)
	fill(out[len(out):], x)
	return out
}

// untouched: in is as roomy made it of l.
func untouched[T comparable](t *testing.T, what string, in, l []T, x T) {
	t.Helper()
	if !slices.Equal(in, l) || !slices.Equal(in[len(in):cap(in)], slices.Repeat([]T{x}, 4)) {
		t.Errorf("%s: what was handed in, or its spare room, has changed", what)
	}
}

func TestP1202PutKeepsNothing(t *testing.T) {
	s := fresh(t, api.MaxDisk)
	o := open(t, s)
	l := objects(0, 1, 30, 64, 5000)
	for _, x := range append(l, noObjects()...) {
		in := store.Object{Kind: x.Kind, Body: roomy(x.Body, 7)}
		o.Name(in)
		untouched(t, "Name", in.Body, x.Body, 7)
		o.Put(in)
		untouched(t, "Put", in.Body, x.Body, 7)
		fill(in.Body, 99)
	}
	has(t, "written over", o, l...)
	flushes(t, "written over", o, 5)
	packsAre(t, "written over", s, 1, l)
	has(t, "written over", o, l...)
}

// One that is put anew is not kept either.
func TestP1202PutTwiceKeepsNothing(t *testing.T) {
	o := open(t, fresh(t, 5000))
	x := object(3, 30)
	puts(t, "the first time", o, x)
	in := store.Object{Kind: 3, Body: bytes.Clone(x.Body)}
	puts(t, "the second time", o, in)
	fill(in.Body, 99)
	has(t, "written over", o, x)
}

func TestP1203GetHandsOutNewMemory(t *testing.T) {
	s := fresh(t, api.MaxDisk)
	o := open(t, s)
	l := objects(1, 30, 64, 5000)
	look := func(what string) {
		t.Helper()
		for _, want := range l {
			kept, f := o.Get(named(want))
			other, g := o.Get(named(want))
			ok(t, f, g)
			fill(other.Body, 99)
			_ = append(other.Body, 1, 2, 3)
			if !alike(kept, want) {
				t.Errorf("%s: two answers share memory", what)
			}
			fill(kept.Body, 98)
		}
		gets(t, what+", written over", o, l...)
	}
	puts(t, "waiting", o, l...)
	look("waiting")
	flushes(t, "waiting", o, 4)
	packsAre(t, "waiting", s, 1, l)
	look("in a pack")
	replaces(t, "in a pack", o, names(l...), 1)
	look("replaced")
	spoilt(t, "written over", o)
}

// What was got ahead of a flush stays as it was.
func TestP1203WhatWasGotOutlastsAFlush(t *testing.T) {
	o := open(t, fresh(t, 5000))
	l := objects(30, 40)
	puts(t, "waiting", o, l...)
	x, f := o.Get(named(l[0]))
	ok(t, f)
	flushes(t, "flushed", o, 2)
	replaces(t, "replaced", o, nil, 1)
	puts(t, "others", o, objects(1, 2, 3, 4)...)
	if !alike(x, l[0]) {
		t.Error("it has changed")
	}
}

func TestP1205NamesHandsOutNewMemory(t *testing.T) {
	s := fresh(t, api.MaxDisk)
	l := objects(3, 4, 5, 6)
	o := holding(t, s, l[:2])
	puts(t, "waiting", o, l[2:]...)
	kept := o.Names()
	fill(o.Names(), api.Hash{1})
	_ = append(o.Names(), api.Hash{2})
	if !slices.Equal(kept, inOrder(names(l...))) {
		t.Error("two answers share memory")
	}
	has(t, "written over", o, l...)
	flushes(t, "written over", o, 2)
	fill(kept, api.Hash{3})
	has(t, "written over", o, l...)
	packsAre(t, "written over", s, 1, l[:2], l[2:])
}

// What is kept is neither changed nor kept, with a fault neither.
func TestP1205ReplaceKeepsNothing(t *testing.T) {
	mark := api.Hash{77}
	l := objects(3, 4, 5, 6)
	h := names(l...)
	for _, keep := range [][]api.Hash{nil, {}, h, {h[3], h[0], h[3]}, {h[2], mark}, {h[1], h[1], h[1]}} {
		for _, wait := range []bool{false, true} {
			s := fresh(t, api.MaxDisk)
			o := holding(t, s, l)
			if wait {
				puts(t, "waits", o, object(9, 9))
			}
			in := roomy(keep, mark)
			o.Replace(in)
			untouched(t, "Replace", in, keep, mark)
			all, disk := o.Names(), file(s, "index")
			fill(in, api.Hash{5})
			if !slices.Equal(o.Names(), all) || !bytes.Equal(file(s, "index"), disk) {
				t.Error("written over: names are others")
			}
			spoilt(t, "written over", o)
		}
	}
}

func TestP1206VerifyHandsOutNewMemory(t *testing.T) {
	s := fresh(t, api.MaxDisk)
	l := objects(3, 4, 5)
	o := holding(t, s, l)
	ok(t, s.Flip("pack.1", 5, 1), s.Flip("pack.1", 60, 1))
	kept := o.Verify()
	fill(o.Verify(), api.Hash{1})
	if !slices.Equal(kept, inOrder(names(l[:2]...))) {
		t.Error("two answers share memory")
	}
	spoilt(t, "written over", o, names(l[:2]...)...)
	namesAre(t, "written over", o, names(l...)...)
}
