package pack_test

import (
	"testing"

	"hayloft/api"
	"hayloft/crc"
	"hayloft/frame"
	"hayloft/pack"
	"hayloft/simfs"
)

// withNil: pairs, of which at least one is nil.
func withNil(t *testing.T) []struct {
	s *simfs.FS
	c *crc.Table
} {
	s := fresh(t, 1000)
	sealedPack(t, s, 1, record(1, 1))
	down := s.Copy()
	ok(t, down.Arm(0))
	is(t, "a step", down.SyncDir(), api.Down)
	return []struct {
		s *simfs.FS
		c *crc.Table
	}{{nil, nil}, {nil, crc.New()}, {s, nil}, {down, nil}}
}

func TestP802NilIsAheadOfAll(t *testing.T) {
	for _, x := range withNil(t) {
		for _, id := range append(noIDs(), 1, 2, 999999) {
			w, f := pack.Begin(x.s, x.c, id)
			noWriter(t, "Begin", w, f, api.Nil)
		}
		if x.s != nil && len(x.s.List()) > 1 {
			t.Error("something was begun")
		}
	}
}

func TestP804NilIsAheadOfAll(t *testing.T) {
	for _, x := range withNil(t) {
		for _, id := range append(noIDs(), 1, 2, 999999) {
			if l, f := pack.Load(x.s, x.c, id); len(l) != 0 || f != api.Nil {
				t.Errorf("Load(%d): %d records, fault %d", id, len(l), f)
			}
			for _, at := range []int{0, 1, -1, 50, 99} {
				if r, f := pack.Get(x.s, x.c, id, at); !isZero(r) || f != api.Nil {
					t.Errorf("Get(%d, %d): fault %d", id, at, f)
				}
			}
		}
	}
}

func TestP805NilIsAheadOfAll(t *testing.T) {
	tells(t, "no file system", nil, nil, nil)
	cleans(t, "no file system", nil, 0, api.Nil)
	for _, id := range append(noIDs(), 1, 2, 999999) {
		is(t, "Drop", pack.Drop(nil, id), api.Nil)
	}
}

// A writer that Begin did not make is as good as none.
func TestP803NilWriters(t *testing.T) {
	for what, w := range map[string]*pack.Writer{"nil": nil, "zero": new(pack.Writer)} {
		for range 2 {
			for _, r := range []frame.Record{record(1, 1), {}, {Kind: 10}, record(1, api.MaxObject)} {
				notAdded(t, what, w, r, api.Nil)
			}
			is(t, what, w.Seal(), api.Nil)
			is(t, what, w.Abort(), api.Nil)
			far(t, what, w, 0, 0)
		}
	}
}

// Tables and file systems that are zero are there.
func TestP802ZeroOnes(t *testing.T) {
	w := begin(t, new(simfs.FS), crc.New(), 1)
	notAdded(t, "no room", w, record(1, 0), api.NoSpace)
	s := fresh(t, 1000)
	w = begin(t, s, new(crc.Table), 1)
	add(t, w, some()...)
	ok(t, w.Seal())
	if l, f := pack.Load(s, new(crc.Table), 1); f != api.OK || !placedAlike(l, placed(some()...)) {
		t.Errorf("Load: %d records, fault %d", len(l), f)
	}
	if r, f := pack.Get(s, new(crc.Table), 1, 0); f != api.OK || !alike(r, some()[0]) {
		t.Errorf("Get: fault %d", f)
	}
}
