package shelf_test

import (
	"testing"

	"hayloft/api"
	"hayloft/crc"
	"hayloft/frame"
	"hayloft/shelf"
	"hayloft/simfs"
)

func TestP901OpenOfNil(t *testing.T) {
	s := fresh(t, 1000)
	ok(t, s.Create("tmp.1"), s.Create("pack.1"), s.Arm(0))
	notOpened(t, "neither", nil, nil, api.Nil)
	notOpened(t, "no file system", nil, crc.New(), api.Nil)
	notOpened(t, "no table", s, nil, api.Nil)
	sees(t, "nothing was cleaned", s, "pack.1", "tmp.1")
	if s.Down() {
		t.Error("a step was tried")
	}
	goesDown(t, s)
	notOpened(t, "no table, and down", s, nil, api.Nil)
}

// noShelves: a nil one, and one that Open did not make, which is as good as none.
func noShelves() map[string]*shelf.Shelf {
	return map[string]*shelf.Shelf{"nil": nil, "zero": new(shelf.Shelf)}
}

func TestP901NilShelf(t *testing.T) {
	for what, h := range noShelves() {
		stands(t, what, h, 0)
	}
}

func TestP902NilShelf(t *testing.T) {
	for what, h := range noShelves() {
		for _, l := range [][]frame.Record{nil, {}, records(1), records(5000, 5000, 5000), wrongOnes()} {
			notLaid(t, what, h, l, api.Nil)
		}
		stands(t, what, h, 0)
	}
}

func TestP903NilShelf(t *testing.T) {
	for what, h := range noShelves() {
		for _, w := range []shelf.Where{{}, {Pack: 1, Len: 50}, {Pack: 1, Len: -1}, {Pack: 0, At: -1, Len: 0}, {Pack: 1, At: 7, Len: 1}} {
			notRead(t, what, h, w, api.Nil)
		}
		for _, id := range append(noIDs(), 1, 2, 999999) {
			notLoaded(t, what, h, id, api.Nil)
		}
		for _, most := range []int{-1, 0, 1, 99} {
			walks(t, what, h, most, nil)
		}
	}
}

func TestP904NilShelf(t *testing.T) {
	for what, h := range noShelves() {
		drops(t, what, h, 0, api.Nil)
		drops(t, what, h, 0, api.Nil, 1)
		drops(t, what, h, 0, api.Nil, 0, 1)
		counts(t, what, h.Bytes(), 0)
	}
}

// File systems and tables that are zero are there.
func TestP901ZeroOnes(t *testing.T) {
	h, f := shelf.Open(new(simfs.FS), new(crc.Table))
	if h == nil || f != api.OK {
		t.Fatalf("Open: fault %d", f)
	}
	stands(t, "nothing", h, 1)
	notLaid(t, "no room", h, records(0), api.NoSpace)
	stands(t, "begun", h, 2)
	s := fresh(t, 1000)
	h, f = shelf.Open(s, new(crc.Table))
	ok(t, f)
	reads(t, "a zero table", h, lays(t, "a zero table", h, records(4, 5)...), records(4, 5)...)
}
