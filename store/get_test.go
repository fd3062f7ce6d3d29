package store_test

import (
	"bytes"
	"slices"
	"testing"

	"hayloft/api"
	"hayloft/frame"
	"hayloft/store"
)

func TestP1203Get(t *testing.T) {
	s := fresh(t, api.MaxDisk)
	o := open(t, s)
	l := objects(0, 1, 63, 64, 5000, 300, 5000, 2, 5000)
	for n := range l {
		puts(t, "put", o, l[:n+1]...)
		gets(t, "it waits", o, l[:n+1]...)
		if n%2 == 1 {
			flushes(t, "flushed", o, 2)
			gets(t, "flushed", o, l[:n+1]...)
			gets(t, "another one", open(t, s), l[:n+1]...)
		}
	}
	steps := s.Steps()
	gets(t, "some wait", o, l...)
	if s.Steps() != steps {
		t.Error("a step was taken")
	}
}

func TestP1203GetOfWhatIsNotThere(t *testing.T) {
	s := fresh(t, 5000)
	l := objects(3, 4, 5)
	o := open(t, s)
	none := []api.Hash{{}, named(object(9, 9)), api.Hash(bytes.Repeat([]byte{255}, 32)), named(l[2])}
	notGot(t, "empty", o, api.NotFound, none...)
	puts(t, "one", o, l[0])
	notGot(t, "one waits", o, api.NotFound, none...)
	flushes(t, "one", o, 1)
	puts(t, "two", o, l[1])
	notGot(t, "one waits, one does not", o, api.NotFound, none...)
	for i := range 32 {
		near := named(l[0])
		near[i] ^= 128
		notGot(t, "a name beside it", o, api.NotFound, near)
	}
	goesDown(t, s)
	notGot(t, "down", o, api.NotFound, none...)
}

func TestP1203GetWhileDown(t *testing.T) {
	s := fresh(t, 5000)
	l := objects(3, 4, 5)
	o := holding(t, s, l[:2])
	puts(t, "waits", o, l[2])
	goesDown(t, s)
	notGot(t, "in a pack", o, api.Down, names(l[:2]...)...)
	gets(t, "it waits", o, l[2])
	ok(t, s.Up(0, nil))
	gets(t, "up again", o, l...)
}

// Each bit of each byte of a pack is turned: the object is never told as another one, and those
// beside it are still got.
func TestP1203GetOfTurnedBytes(t *testing.T) {
	s := fresh(t, 5000)
	l := objects(3, 0, 20)
	o := holding(t, s, l)
	at := 0
	for i, x := range l {
		others := slices.Delete(slices.Clone(l), i, i+1)
		for range 49 + len(x.Body) {
			for bit := range 8 {
				ok(t, s.Flip("pack.1", at, 1<<bit))
				notGot(t, "turned", o, api.Corrupt, named(x))
				gets(t, "beside it", o, others...)
				spoilt(t, "turned", o, named(x))
				ok(t, s.Flip("pack.1", at, 1<<bit))
				if t.Failed() {
					t.Fatalf("byte %d, bit %d", at, bit)
				}
			}
			at++
		}
	}
	counts(t, "all bytes", at, len(file(s, "pack.1")))
	gets(t, "turned back", o, l...)
}

// A record whose sum fits, but which is not the one that was laid: the index leads to it, since
// its frame is as long, or since an Open found it so.
func TestP1203GetOfAnotherRecord(t *testing.T) {
	x := object(3, 20)
	other := object(3, 20)
	other.Body = bytes.Repeat([]byte("q"), 20)
	for what, r := range map[string]frame.Record{
		"another object":            record(other),
		"another Name":              {Kind: 3, Name: named(other), Body: x.Body},
		"the zero name":             {Kind: 3, Body: x.Body},
		"another Kind":              {Kind: 4, Name: named(x), Body: x.Body},
		"another Body":              {Kind: 3, Name: named(x), Body: other.Body},
		"a Body of another size":    {Kind: 3, Name: named(x), Body: x.Body[:19]},
		"a Body with one byte more": {Kind: 3, Name: named(x), Body: append(slices.Clone(x.Body), 0)},
	} {
		s := fresh(t, 5000)
		o := holding(t, s, []store.Object{x, object(5, 5)})
		put(t, s, "pack.1", append(framed(r), frames(object(5, 5))...))
		notGot(t, what, o, api.Corrupt, named(x))
		p := open(t, s)
		if r.Name == named(x) {
			notGot(t, what+", opened", p, api.Corrupt, named(x))
			spoilt(t, what+", opened", p, named(x))
		} else {
			notGot(t, what+", opened", p, api.NotFound, named(x))
		}
		gets(t, what+", opened", p, object(5, 5))
	}
}

// A record under the zero name, or any other that is not its own, is never told.
func TestP1203GetOfFalseNames(t *testing.T) {
	s := fresh(t, 5000)
	x := object(3, 20)
	var all []api.Hash
	var b []byte
	for i := range 5 {
		h := named(x)
		h[i*7] ^= byte(i)
		all = append(all, h)
		b = append(b, framed(frame.Record{Kind: 3, Name: h, Body: x.Body})...)
	}
	all = append(all, api.Hash{})
	put(t, s, "pack.1", append(b, framed(frame.Record{Kind: 3, Body: x.Body})...))
	o := open(t, s)
	namesAre(t, "false names", o, all...)
	gets(t, "its own", o, x)
	notGot(t, "false names", o, api.Corrupt, all[1:]...)
	spoilt(t, "false names", o, all[1:]...)
}

// Whatever else is wrong with the place that the index tells.
func TestP1203GetOfAPackThatIsNot(t *testing.T) {
	l := objects(3, 20)
	for what, b := range map[string][]byte{
		"empty":                nil,
		"the first one alone":  frames(l[0]),
		"a byte too few":       frames(l...)[:len(frames(l...))-1],
		"other bytes":          []byte("hay"),
		"a frame that is long": frames(object(1, 4000)),
	} {
		s := fresh(t, 9000)
		o := holding(t, s, l)
		put(t, s, "pack.1", b)
		notGot(t, what, o, api.Corrupt, named(l[1]))
	}
	s := fresh(t, 9000)
	o := holding(t, s, l)
	ok(t, s.Remove("pack.1"))
	notGot(t, "gone", o, api.Corrupt, names(l...)...)
	spoilt(t, "gone", o, names(l...)...)
}

// What waits is got as it was put, whatever becomes of the disk.
func TestP1203GetOfWhatWaits(t *testing.T) {
	s := fresh(t, 5000)
	l := objects(3, 20)
	o := open(t, s)
	puts(t, "waits", o, l...)
	put(t, s, "pack.1", framed(frame.Record{Kind: 9, Name: named(l[0]), Body: []byte("hay")}))
	gets(t, "a false pack", o, l...)
	ok(t, s.Up(0, nil), s.Remove("index"))
	gets(t, "no index", o, l...)
}
