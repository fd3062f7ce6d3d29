package segment_test

import (
	"bytes"
	"slices"
	"testing"

	"hayloft/api"
	"hayloft/crc"
	"hayloft/segment"
)

// fill writes x into all of l, its spare room too.
func fill[T any](l []T, x T) {
	l = l[:cap(l)]
	for i := range l {
		l[i] = x
	}
}

// roomy: l with spare room behind it, which x fills.
func roomy[T any](l []T, x T) []T {
	out := make([]T, len(l), len(l)+4)
	copy(out, l)
	fill(out[len(out):], x)
	return out
}

// untouched: in is as roomy made it of l.
func untouched[T comparable](t *testing.T, what string, in, l []T, x T) {
	t.Helper()
	if !slices.Equal(in, l) || !slices.Equal(in[len(in):cap(in)], []T{x, x, x, x}) {
		t.Errorf("%s: what was handed in, or its spare room, has changed", what)
	}
}

// mixed: entries out of order, with names that stand twice.
func mixed() []segment.Entry {
	return []segment.Entry{one(5, 2, 0, 1), one(1, 1, 0, 1), one(5, 3, 0, 1), one(3, 1, 7, 7), one(1, 4, 0, 1), one(2, 2, 7, 7)}
}

// answers: what each call that answers entries answers to these.
func answers(l []segment.Entry) map[string]func() []segment.Entry {
	return map[string]func() []segment.Entry{
		"Sort":             func() []segment.Entry { return segment.Sort(l) },
		"Join, first":      func() []segment.Entry { return segment.Join(l, nil) },
		"Join, second":     func() []segment.Entry { return segment.Join(nil, l) },
		"Join, both":       func() []segment.Entry { return segment.Join(l, l) },
		"Join, parts":      func() []segment.Entry { return segment.Join(l[:2], l[2:]) },
		"Without no pack":  func() []segment.Entry { return segment.Without(l, nil) },
		"Without one":      func() []segment.Entry { return segment.Without(l, []int{2}) },
		"Without the last": func() []segment.Entry { return segment.Without(l, []int{l[len(l)-1].W.Pack}) },
	}
}

func TestListsAreNewMemory(t *testing.T) {
	mark := one(77, 77, 77, 77)
	for _, l := range [][]segment.Entry{mixed()[:2], mixed(), rising(2), rising(30)} {
		in := roomy(l, mark)
		for what, call := range answers(in) {
			want := slices.Clone(call())
			fill(call(), segment.Entry{})
			untouched(t, what, in, l, mark)
			kept := call()
			fill(call(), mark)
			are(t, what+", two answers", kept, want...)
			fill(in, segment.Entry{})
			are(t, what+", written over", kept, want...)
			copy(in, l)
			fill(in[len(in):], mark)
		}
	}
}

// A list with no entry in it but with spare room: none of that is handed out.
func TestSpareRoomIsNotHandedOut(t *testing.T) {
	mark := one(77, 77, 77, 77)
	in := roomy([]segment.Entry{}, mark)
	for what, out := range map[string][]segment.Entry{
		"Sort":    segment.Sort(in),
		"Join":    segment.Join(in, in),
		"Without": segment.Without(in, []int{1}),
	} {
		fill(out, segment.Entry{})
		_ = append(out, segment.Entry{})
		untouched(t, what, in, nil, mark)
	}
}

func TestCallsThatTellDoNotTouch(t *testing.T) {
	mark := one(77, 77, 77, 77)
	for _, l := range [][]segment.Entry{mixed(), rising(9)} {
		in := roomy(l, mark)
		segment.Right(in)
		segment.Find(in, in[0].Name)
		segment.Find(in, named(99))
		b, _ := segment.Put(crc.New(), in)
		ids := segment.Packs(in)
		fill(b, 0)
		fill(ids, -1)
		untouched(t, "Right, Find, Put, Packs", in, l, mark)
	}
}

func TestP1004PacksAreNewMemory(t *testing.T) {
	kept := segment.Packs(mixed())
	fill(segment.Packs(mixed()), -1)
	if !slices.Equal(kept, []int{1, 2, 3, 4}) {
		t.Errorf("two answers share memory: %v", kept)
	}
	gone := roomy([]int{2, 1}, 99)
	left := segment.Without(mixed(), gone)
	untouched(t, "Without", gone, []int{2, 1}, 99)
	fill(gone, 3)
	are(t, "packs written over", left, one(5, 3, 0, 1), one(1, 4, 0, 1))
}

func TestP1002PutAndGetHandOutNewMemory(t *testing.T) {
	c := crc.New()
	l := rising(5)
	whole := sealed(listForm(l...))
	in := slices.Clone(l)
	b, f := segment.Put(c, in)
	other, _ := segment.Put(c, in)
	fill(in, segment.Entry{})
	fill(other, 0)
	if f != api.OK || !bytes.Equal(b, whole) {
		t.Error("the bytes have changed with what was handed in, or with another answer")
	}
	given := roomy(whole, 0xEE)
	got, f := segment.Get(c, given)
	more, _ := segment.Get(c, given)
	fill(more, segment.Entry{})
	untouched(t, "Get", given, whole, 0xEE)
	fill(given, 0)
	if f != api.OK {
		t.Errorf("Get: fault %d", f)
	}
	are(t, "written over", got, l...)
}
