package index_test

import (
	"slices"
	"testing"

	"hayloft/api"
	"hayloft/crc"
	"hayloft/index"
	"hayloft/segment"
)

// fill writes x into all of l, its spare room too.
func fill[T any](l []T, x T) {
	l = l[:cap(l)]
	for i := range l {
		l[i] = x
	}
}

// roomy: l with spare room behind it, which mark fills.
func roomy(l []segment.Entry) []segment.Entry {
	out := make([]segment.Entry, len(l), len(l)+4)
	copy(out, l)
	fill(out[len(out):], mark())
	return out
}

func mark() segment.Entry { return one(77, 77, 77, 77) }

// untouched: in is as roomy made it of l.
func untouched(t *testing.T, what string, in, l []segment.Entry) {
	t.Helper()
	spare := in[len(in):cap(in)]
	if !slices.Equal(in, l) || !slices.Equal(spare, slices.Repeat([]segment.Entry{mark()}, 4)) {
		t.Errorf("%s: what was handed in, or its spare room, has changed", what)
	}
}

func TestP1101SaveKeepsNothing(t *testing.T) {
	s := fresh(t, 2000)
	for _, l := range [][]segment.Entry{nil, rising(4), {one(2, 1, 1, 1), one(1, 1, 1, 1)}} {
		in := roomy(l)
		f := index.Save(s, crc.New(), in)
		untouched(t, "Save", in, l)
		fill(in, segment.Entry{})
		if f == api.OK {
			loads(t, "written over", s, l...)
		}
	}
}

func TestP1101LoadHandsOutNewMemory(t *testing.T) {
	s := fresh(t, 2000)
	put(t, s, "index", saved(rising(4)...))
	kept, f := index.Load(s, crc.New())
	other, g := index.Load(s, crc.New())
	ok(t, f, g)
	fill(other, mark())
	are(t, "two answers", kept, rising(4)...)
	loads(t, "written over", s, rising(4)...)
}

func TestP1102RebuildHandsOutNewMemory(t *testing.T) {
	s, l := twoPacks(t)
	put(t, s, "pack.9", nil)
	h := shelved(t, s)
	kept, lost := index.Rebuild(h)
	other, ids := index.Rebuild(h)
	fill(other, mark())
	fill(ids, -1)
	are(t, "two answers", kept, l...)
	if !slices.Equal(lost, []int{9}) {
		t.Errorf("two answers: %v", lost)
	}
	rebuilds(t, "written over", h, l, 9)
}

// What is added or set is neither changed nor kept, with a fault neither.
func TestP1104AddAndSetKeepNothing(t *testing.T) {
	mixed := []segment.Entry{one(5, 2, 0, 1), one(1, 1, 0, 1), one(5, 3, 0, 1), one(3, 1, 7, 7)}
	wrong := append(slices.Clone(mixed), segment.Entry{})
	for _, l := range [][]segment.Entry{nil, rising(4), mixed, wrong, rising(901)} {
		for what, do := range map[string]func(x *index.Index, l []segment.Entry) api.Fault{"Add": (*index.Index).Add, "Set": (*index.Index).Set} {
			for _, ahead := range [][]segment.Entry{nil, {one(5, 9, 9, 9), one(6, 9, 9, 9)}} {
				x, s := having(t, 2000, ahead...)
				in := roomy(l)
				do(x, in)
				untouched(t, what, in, l)
				all := x.All()
				fill(in, mark())
				holds(t, what+", written over", x, all...)
				loads(t, what+", written over", s, all...)
				ok(t, x.Add(nil))
				holds(t, what+", and saved", x, all...)
			}
		}
	}
}

func TestP1104AllIsNewMemory(t *testing.T) {
	for _, n := range []int{0, 1, 5} {
		x, s := having(t, 2000, rising(n)...)
		kept := x.All()
		fill(x.All(), mark())
		_ = append(x.All(), mark())
		are(t, "two answers", kept, rising(n)...)
		holds(t, "written over", x, rising(n)...)
		fill(kept, segment.Entry{})
		ok(t, x.Add([]segment.Entry{one(9999, 1, 1, 1)}))
		want := append(rising(n), one(9999, 1, 1, 1))
		holds(t, "written over, and added", x, want...)
		loads(t, "written over, and added", s, want...)
	}
}

// What was handed out ahead of a change stays as it was.
func TestP1104AllOutlastsChanges(t *testing.T) {
	x, _ := having(t, 2000, rising(5)...)
	kept := x.All()
	ok(t, x.Set(rising(2)), x.Add([]segment.Entry{one(1, 1, 1, 1), one(3, 1, 1, 1), one(5, 1, 1, 1)}))
	are(t, "ahead of Set and Add", kept, rising(5)...)
}

// An index that was opened shares nothing with what Load and Rebuild tell.
func TestP1103OpenSharesNothing(t *testing.T) {
	s, l := twoPacks(t)
	for _, rebuilt := range []bool{true, false} {
		h := shelved(t, s)
		x := opens(t, "open", s, rebuilt, l...)
		told, _ := index.Rebuild(h)
		fill(told, mark())
		from, _ := index.Load(s, crc.New())
		fill(from, mark())
		holds(t, "written over", x, l...)
	}
}
