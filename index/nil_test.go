package index_test

import (
	"testing"

	"hayloft/api"
	"hayloft/crc"
	"hayloft/index"
	"hayloft/segment"
	"hayloft/shelf"
	"hayloft/simfs"
)

func TestP1101NilOnes(t *testing.T) {
	none, s := fresh(t, 2000), fresh(t, 2000)
	put(t, s, "index", saved(rising(2)...))
	put(t, s, "tmp.index", nil)
	steps := s.Steps()
	down := s.Copy()
	goesDown(t, down)
	for what, x := range map[string]struct {
		s *simfs.FS
		t *crc.Table
	}{
		"neither":                      {nil, nil},
		"no file system":               {nil, crc.New()},
		"no table":                     {s, nil},
		"no table, no file":            {none, nil},
		"no table, and down":           {down, nil},
		"no file system, a zero table": {nil, new(crc.Table)},
	} {
		l, f := index.Load(x.s, x.t)
		is(t, what+": Load", f, api.Nil)
		if len(l) != 0 {
			t.Errorf("%s: Load: %d entries", what, len(l))
		}
		is(t, what+": Save", index.Save(x.s, x.t, rising(1)), api.Nil)
		is(t, what+": Save of none", index.Save(x.s, x.t, nil), api.Nil)
		is(t, what+": Save of what is not right", index.Save(x.s, x.t, rising(901)), api.Nil)
	}
	sees(t, "nothing was done", s, "index", "tmp.index")
	sees(t, "nothing was done", none)
	loads(t, "nothing was done", s, rising(2)...)
	if s.Steps() != steps {
		t.Error("a step was taken")
	}
}

func TestP1102NilShelf(t *testing.T) {
	rebuilds(t, "nil", nil, nil)
	rebuilds(t, "zero", new(shelf.Shelf), nil)
}

func TestP1103NilOnes(t *testing.T) {
	s, l := twoPacks(t)
	h := shelved(t, s)
	put(t, s, "tmp.index", nil)
	steps := s.Steps()
	down := s.Copy()
	goesDown(t, down)
	for what, x := range map[string]struct {
		s *simfs.FS
		t *crc.Table
		h *shelf.Shelf
	}{
		"nothing":            {nil, nil, nil},
		"no file system":     {nil, crc.New(), h},
		"no table":           {s, nil, h},
		"no shelf":           {s, crc.New(), nil},
		"no shelf, and down": {down, crc.New(), nil},
		"no table, and down": {down, nil, h},
		"a shelf alone":      {nil, nil, h},
		"a table alone":      {nil, crc.New(), nil},
		"a system alone":     {s, nil, nil},
	} {
		got, rebuilt, f := index.Open(x.s, x.t, x.h)
		if f != api.Nil || got != nil || rebuilt {
			t.Errorf("%s: Open: %v, %v, fault %d", what, got != nil, rebuilt, f)
		}
	}
	sees(t, "nothing was done", s, "pack.1", "pack.2", "tmp.index")
	if s.Steps() != steps {
		t.Error("a step was taken")
	}
	put(t, s, "index", saved(l...))
	if _, _, f := index.Open(s, crc.New(), nil); f != api.Nil {
		t.Errorf("no shelf, but an index: fault %d", f)
	}
}

// A nil index, and one that Open did not make, which is as good as none.
func TestP1104NilIndex(t *testing.T) {
	for what, x := range map[string]*index.Index{"nil": nil, "zero": new(index.Index)} {
		for _, l := range [][]segment.Entry{nil, {}, rising(1), rising(901), {{}}} {
			is(t, what+": Add", x.Add(l), api.Nil)
			is(t, what+": Set", x.Set(l), api.Nil)
		}
		holds(t, what, x)
		misses(t, what, x, api.Hash{}, named(2))
	}
}

// File systems and tables that are zero are there.
func TestP1103ZeroOnes(t *testing.T) {
	s := new(simfs.FS)
	notOpened(t, "no room", s, shelved(t, s), api.NoSpace)
	s = fresh(t, 2000)
	l := lays(t, shelved(t, s), records(1, 2))
	x, rebuilt, f := index.Open(s, new(crc.Table), shelved(t, s))
	ok(t, f)
	if !rebuilt {
		t.Error("not rebuilt")
	}
	holds(t, "a zero table", x, l...)
	loads(t, "a zero table", s, l...)
}
