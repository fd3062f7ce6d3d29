package pack_test

import (
	"bytes"
	"math"
	"slices"
	"testing"

	"hayloft/api"
	"hayloft/crc"
	"hayloft/frame"
	"hayloft/pack"
	"hayloft/simfs"
)

// notLoaded: Load has that fault, and no list beside it.
func notLoaded(t *testing.T, what string, s *simfs.FS, id int, want api.Fault) {
	t.Helper()
	l, f := pack.Load(s, crc.New(), id)
	is(t, what+": Load", f, want)
	if len(l) != 0 {
		t.Errorf("%s: Load: %d records beside fault %d", what, len(l), f)
	}
}

// notGot: Get has that fault, and no record beside it.
func notGot(t *testing.T, what string, s *simfs.FS, id, at int, want api.Fault) {
	t.Helper()
	r, f := pack.Get(s, crc.New(), id, at)
	is(t, what+": Get", f, want)
	if !isZero(r) {
		t.Errorf("%s: Get: a record beside fault %d", what, f)
	}
}

// noPlaces: of a file with n bytes.
func noPlaces(n int) []int {
	return []int{-1, -2, -n, math.MinInt, math.MinInt + 1, n, n + 1, n + 49, math.MaxInt, math.MaxInt - 3}
}

func TestP804LoadAndGet(t *testing.T) {
	s := fresh(t, api.MaxDisk)
	sealedPack(t, s, 1, some()...)
	sealedPack(t, s, 999999, record(3, api.MaxObject), record(9, api.MaxObject))
	sealedPack(t, s, 12, record(9, 0))
	steps := s.Steps()
	has(t, "several", s, 1, some()...)
	has(t, "great ones", s, 999999, record(3, api.MaxObject), record(9, api.MaxObject))
	has(t, "one", s, 12, record(9, 0))
	ok(t, s.Arm(0))
	has(t, "armed", s, 1, some()...)
	if s.Steps() != steps || s.Down() {
		t.Error("Load or Get is a step")
	}
}

func TestP804NoID(t *testing.T) {
	s := fresh(t, 1000)
	sealedPack(t, s, 1, record(1, 1))
	for _, id := range noIDs() {
		notLoaded(t, "no id", s, id, api.BadArg)
		for _, at := range []int{0, -1, 1, math.MaxInt} {
			notGot(t, "no id", s, id, at, api.BadArg)
		}
	}
	ok(t, s.Arm(0))
	is(t, "a step", s.SyncDir(), api.Down)
	notLoaded(t, "no id while it is down", s, 0, api.BadArg)
	notGot(t, "no id while it is down", s, 1000000, 0, api.BadArg)
}

func TestP804NoPack(t *testing.T) {
	s := fresh(t, 1000)
	w := begin(t, s, crc.New(), 2)
	add(t, w, some()...)
	ok(t, s.Create("pack.02"))
	for _, id := range []int{1, 2, 999999} {
		notLoaded(t, "not there", s, id, api.NotFound)
		// That there is no pack is told ahead of that the place is none.
		for _, at := range []int{0, -1, 1, math.MaxInt, math.MinInt} {
			notGot(t, "not there", s, id, at, api.NotFound)
		}
	}
}

func TestP804WhileItIsDown(t *testing.T) {
	s := fresh(t, 1000)
	sealedPack(t, s, 1, some()...)
	ok(t, s.Arm(0))
	is(t, "a step", s.SyncDir(), api.Down)
	for _, id := range []int{1, 2} {
		notLoaded(t, "down", s, id, api.Down)
		for _, at := range []int{0, -1, math.MaxInt} {
			notGot(t, "down", s, id, at, api.Down)
		}
	}
	ok(t, s.Up(0, nil))
	has(t, "up again", s, 1, some()...)
}

func TestP804AnEmptyFile(t *testing.T) {
	s := fresh(t, 1000)
	ok(t, s.Create("pack.4"))
	notLoaded(t, "empty", s, 4, api.Corrupt)
	for _, at := range append(noPlaces(0), 0, 1) {
		notGot(t, "empty", s, 4, at, api.BadArg)
	}
}

func TestP804GetAtEachPlace(t *testing.T) {
	s := fresh(t, 9000)
	l := some()
	sealedPack(t, s, 4, l...)
	n := len(laid(l...))
	for at := range n {
		i := slices.IndexFunc(placed(l...), func(p frame.Placed) bool { return p.At == at })
		if i < 0 {
			notGot(t, "within a frame", s, 4, at, api.Corrupt)
			continue
		}
		if r, f := pack.Get(s, crc.New(), 4, at); f != api.OK || !alike(r, l[i]) {
			t.Errorf("at %d: fault %d", at, f)
		}
	}
	for _, at := range noPlaces(n) {
		notGot(t, "no place", s, 4, at, api.BadArg)
	}
}

// What stands at a place is told, whoever laid it there: a frame within a body is one too.
func TestP804GetOfAFrameWithinABody(t *testing.T) {
	s := fresh(t, 9000)
	in := record(2, 20)
	out := frame.Record{Kind: 5, Body: slices.Concat([]byte("ahead"), framed(in), []byte("behind"))}
	sealedPack(t, s, 4, record(1, 3), out)
	has(t, "the outer ones", s, 4, record(1, 3), out)
	at := bytes.Index(laid(record(1, 3), out), framed(in))
	if r, f := pack.Get(s, crc.New(), 4, at); f != api.OK || !alike(r, in) {
		t.Errorf("the inner one: fault %d", f)
	}
}

func TestP804ACutOffFile(t *testing.T) {
	l := []frame.Record{record(1, 5), record(2, 0), record(3, 9)}
	b, places := laid(l...), placed(l...)
	for n := range b {
		s := fresh(t, 9000)
		safeFile(t, s, "pack.4", b[:n])
		whole := 0
		for _, p := range places {
			if p.At+p.Len <= n {
				whole++
			}
		}
		if whole > 0 && places[whole-1].At+places[whole-1].Len == n {
			has(t, "cut between two frames", s, 4, l[:whole]...)
		} else {
			notLoaded(t, "cut within a frame", s, 4, api.Corrupt)
		}
		for i, p := range places {
			r, f := pack.Get(s, crc.New(), 4, p.At)
			switch {
			case i < whole && (f != api.OK || !alike(r, l[i])):
				t.Errorf("cut at %d: record %d: fault %d", n, i, f)
			case i >= whole && p.At < n && f != api.Corrupt, p.At >= n && f != api.BadArg, i >= whole && !isZero(r):
				t.Errorf("cut at %d: record %d: fault %d", n, i, f)
			}
		}
	}
}

func TestP804ATurnedByte(t *testing.T) {
	l := []frame.Record{record(1, 5), record(2, 0), record(3, 9)}
	b := laid(l...)
	first := fresh(t, 9000)
	sealedPack(t, first, 4, l...)
	sealedPack(t, first, 5, l...)
	for at := range b {
		for _, by := range []byte{1, 0x80, 0xFF, byte(at) | 2} {
			s := first.Copy()
			ok(t, s.Flip("pack.4", at, by))
			notLoaded(t, "turned", s, 4, api.Corrupt)
			for _, p := range placed(l...) {
				if at >= p.At && at < p.At+p.Len {
					notGot(t, "turned", s, 4, p.At, api.Corrupt)
				} else if r, f := pack.Get(s, crc.New(), 4, p.At); f != api.OK || !alike(r, p.R) {
					t.Errorf("byte %d turned: at %d: fault %d", at, p.At, f)
				}
			}
			ok(t, s.Flip("pack.4", at, by))
			if l, f := pack.Load(s, crc.New(), 4); len(l) != 3 || f != api.OK {
				t.Errorf("byte %d turned back: fault %d", at, f)
			}
		}
	}
	has(t, "the other", first, 5, l...)
}

// Bytes behind the last frame, sealed or not, are no record.
func TestP804BytesBehind(t *testing.T) {
	b := laid(some()...)
	for _, more := range [][]byte{{0}, {3}, {3, 0}, {3, 0, 0}, closed([]byte{3, 0, 0}), closed([]byte{1, 0, 1, 9}), closed([]byte("hay")), framed(record(1, 1))[:49], make([]byte, 100)} {
		s := fresh(t, 9000)
		safeFile(t, s, "pack.4", append(bytes.Clone(b), more...))
		notLoaded(t, "more behind", s, 4, api.Corrupt)
		notGot(t, "more behind", s, 4, len(b), api.Corrupt)
		notGot(t, "more behind", s, 4, len(b)+len(more), api.BadArg)
		for i, p := range placed(some()...) {
			if r, f := pack.Get(s, crc.New(), 4, p.At); f != api.OK || !alike(r, p.R) {
				t.Errorf("record %d: fault %d", i, f)
			}
		}
	}
}

// A record that is sealed and not right (Malformed to frame) is Corrupt here, as all others.
func TestP804SealedAndNotRight(t *testing.T) {
	bad := framed(record(1, 3))
	bad = bad[:len(bad)-4]
	bad[6] = 10 // its Kind
	s := fresh(t, 9000)
	safeFile(t, s, "pack.4", closed(bad))
	notLoaded(t, "no right record", s, 4, api.Corrupt)
	notGot(t, "no right record", s, 4, 0, api.Corrupt)
	if _, _, f := frame.Take(crc.New(), closed(bad)); f != api.Malformed {
		t.Errorf("frame: fault %d", f)
	}
}

// A pack that is greater than a writer makes one is read nevertheless: no limit is told here.
func TestP804AFileBeyondMaxPack(t *testing.T) {
	s := fresh(t, api.MaxDisk)
	l := []frame.Record{record(1, api.MaxObject), record(2, api.MaxObject), record(3, api.MaxObject)}
	safeFile(t, s, "pack.4", laid(l...))
	has(t, "great", s, 4, l...)
}
