package store_test

import (
	"testing"

	"hayloft/api"
	"hayloft/store"
)

func TestP1206Bytes(t *testing.T) {
	s := fresh(t, api.MaxDisk)
	o := open(t, s)
	counts(t, "no pack", o.Bytes(), 0)
	l := objects(5000, 5000, 5000, 7)
	puts(t, "waiting", o, l...)
	counts(t, "what waits is in no pack", o.Bytes(), 0)
	flushes(t, "two packs", o, 4)
	counts(t, "two packs", o.Bytes(), len(frames(l...)))
	puts(t, "three packs", o, object(9, 20))
	flushes(t, "three packs", o, 1)
	all := len(frames(l...)) + 69
	counts(t, "three packs", o.Bytes(), all)
	counts(t, "another one", open(t, s).Bytes(), all)
	put(t, s, "hay", make([]byte, 77))
	counts(t, "files that are no packs", o.Bytes(), all)
	put(t, s, "pack.80", make([]byte, 77))
	counts(t, "a pack that can't be loaded", o.Bytes(), all+77)
	goesDown(t, s)
	counts(t, "down, no pack is seen", o.Bytes(), 0)
	ok(t, s.Up(0, nil))
	counts(t, "up again", o.Bytes(), all+77)
	replaces(t, "one is left", o, names(l[3]), 4)
	counts(t, "one is left", o.Bytes(), 56)
}

func TestP1206VerifyOfNothingSpoilt(t *testing.T) {
	s := fresh(t, api.MaxDisk)
	o := open(t, s)
	spoilt(t, "empty", o)
	puts(t, "waiting", o, small(30)...)
	spoilt(t, "waiting", o)
	flushes(t, "in a pack", o, 30)
	puts(t, "both", o, objects(5000, 0, 77)...)
	steps := s.Steps()
	spoilt(t, "both", o)
	if s.Steps() != steps {
		t.Error("a step was taken")
	}
	flushes(t, "in two packs", o, 3)
	spoilt(t, "in two packs", o)
	spoilt(t, "another one", open(t, s))
}

func TestP1206VerifyOfTurnedBytes(t *testing.T) {
	s := fresh(t, api.MaxDisk)
	l := objects(10, 20, 30, 40, 50, 60)
	o := holding(t, s, l[:3], l[3:])
	puts(t, "waits", o, object(9, 9))
	// Within the first, the third and the fifth one's frame.
	ok(t, s.Flip("pack.1", 12, 1), s.Flip("pack.1", 59+69+78, 128), s.Flip("pack.2", 89+60, 255))
	spoilt(t, "three", o, names(l[0], l[2], l[4])...)
	gets(t, "the others", o, l[1], l[3], l[5], object(9, 9))
	namesAre(t, "all are there", o, names(append(l, object(9, 9))...)...)
	ok(t, s.Remove("pack.2"))
	spoilt(t, "a pack is gone", o, names(l[0], l[2], l[3], l[4], l[5])...)
	c := s.Copy()
	goesDown(t, s)
	spoilt(t, "down: that is another fault", o)
	p := open(t, c)
	spoilt(t, "opened anew: they are not there", p)
	has(t, "opened anew", p)
}

// What Verify tells is by names, wherever the objects stand.
func TestP1206VerifyRises(t *testing.T) {
	s := fresh(t, api.MaxDisk)
	l := small(50)
	o := holding(t, s, l)
	var want []store.Object
	for i := 0; i < 50; i += 3 {
		ok(t, s.Flip("pack.1", 51*i+i, 4))
		want = append(want, l[i])
	}
	spoilt(t, "each third one", o, names(want...)...)
}
