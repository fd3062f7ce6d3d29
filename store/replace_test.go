package store_test

import (
	"bytes"
	"maps"
	"slices"
	"testing"

	"hayloft/api"
	"hayloft/simfs"
	"hayloft/store"
)

func TestP1205Names(t *testing.T) {
	s := fresh(t, api.MaxDisk)
	o := open(t, s)
	namesAre(t, "none", o)
	l := small(40)
	puts(t, "waiting", o, l[:15]...)
	namesAre(t, "waiting", o, names(l[:15]...)...)
	flushes(t, "in packs", o, 15)
	namesAre(t, "in packs", o, names(l[:15]...)...)
	puts(t, "both", o, l[10:]...)
	namesAre(t, "both", o, names(l...)...)
	goesDown(t, s)
	namesAre(t, "down", o, names(l...)...)
	notFlushed(t, "down", o, api.Down, l[15:]...)
	namesAre(t, "not flushed", o, names(l...)...)
	ok(t, s.Up(0, nil))
	namesAre(t, "another one", open(t, s), names(l[:15]...)...)
}

// Objects that stand in several packs have one name each.
func TestP1205NamesEachOnce(t *testing.T) {
	s := fresh(t, api.MaxDisk)
	l := objects(3, 4, 5)
	put(t, s, "pack.1", frames(l[0], l[1], l[0]))
	put(t, s, "pack.2", frames(l[2], l[1]))
	o := open(t, s)
	has(t, "twice", o, l...)
	replaces(t, "twice", o, names(l...), 2)
	packsAre(t, "twice", s, 3, byName(l...))
	has(t, "twice", o, l...)
}

// twoPacks: a file system with two packs of these objects.
func twoPacks(t *testing.T) (*simfs.FS, []store.Object) {
	t.Helper()
	s := fresh(t, api.MaxDisk)
	l := objects(9, 0, 64, 3, 8, 7)
	holding(t, s, l[:4], l[4:])
	return s, l
}

func TestP1205Replace(t *testing.T) {
	s, l := twoPacks(t)
	o := open(t, s)
	keep := []store.Object{l[1], l[3], l[4]}
	replaces(t, "some", o, names(keep...), 2)
	sees(t, "some", s, "index", "pack.3")
	packsAre(t, "some", s, 3, byName(keep...))
	indexed(t, "some", s, 3, byName(keep...))
	has(t, "some", o, keep...)
	notGot(t, "the others", o, api.NotFound, names(l[0], l[2], l[5])...)
	counts(t, "Bytes", o.Bytes(), len(frames(keep...)))
	ok(t, s.Up(0, nil))
	has(t, "all is safe", open(t, s), keep...)
	puts(t, "what is gone can be put", o, l...)
	counts(t, "what is gone can be put", o.Pending(), 3)
	flushes(t, "what is gone can be put", o, 3)
	has(t, "what is gone can be put", o, l...)
}

func TestP1205ReplaceByAll(t *testing.T) {
	s, l := twoPacks(t)
	o := open(t, s)
	replaces(t, "all", o, o.Names(), 2)
	packsAre(t, "all", s, 3, byName(l...))
	has(t, "all", o, l...)
	replaces(t, "all, once more", o, o.Names(), 1)
	sees(t, "all, once more", s, "index", "pack.4")
	packsAre(t, "all, once more", s, 4, byName(l...))
	has(t, "all, once more", open(t, s), l...)
}

// With no name nothing is laid, and all packs are gone.
func TestP1205ReplaceByNone(t *testing.T) {
	for _, keep := range [][]api.Hash{nil, {}} {
		s, l := twoPacks(t)
		o := open(t, s)
		replaces(t, "none", o, keep, 2)
		sees(t, "none", s, "index")
		indexed(t, "none", s, 1)
		has(t, "none", o)
		counts(t, "Bytes", o.Bytes(), 0)
		steps := s.Steps()
		replaces(t, "none of none", o, keep, 0)
		counts(t, "an index is saved", int(s.Steps()-steps), 5)
		puts(t, "put anew", o, l...)
		flushes(t, "put anew", o, 6)
		packsAre(t, "put anew", s, 1, l)
	}
	o := open(t, fresh(t, 500))
	replaces(t, "none of an empty store", o, nil, 0)
}

// Names out of order, and twice: they are laid rising, each once.
func TestP1205ReplaceOutOfOrder(t *testing.T) {
	_, l := twoPacks(t)
	h := inOrder(names(l...))
	for _, keep := range [][]api.Hash{
		{h[4], h[0], h[2]}, {h[4], h[2], h[0]}, {h[0], h[0], h[2], h[4]}, {h[2], h[4], h[2], h[0], h[4], h[4], h[2], h[0]},
	} {
		s, _ := twoPacks(t)
		o := open(t, s)
		replaces(t, "out of order", o, keep, 2)
		want := byName(slices.DeleteFunc(slices.Clone(l), func(x store.Object) bool { return !slices.Contains(keep, named(x)) })...)
		counts(t, "kept", len(want), 3)
		packsAre(t, "out of order", s, 3, want)
		indexed(t, "out of order", s, 3, want)
		has(t, "out of order", o, want...)
	}
}

func TestP1205ReplaceIntoSeveralPacks(t *testing.T) {
	s := fresh(t, api.MaxDisk)
	l := objects(5000, 4000, 4000, 3000, 900, 2000, 5, 5000, 1853)
	holding(t, s, l[:2], l[2:])
	o := open(t, s)
	keep := slices.Concat(l[:5], l[6:])
	old := len(parts(l[:2]...)) + len(parts(l[2:]...))
	packs := parts(byName(keep...)...)
	if len(packs) < 2 {
		t.Fatal("one pack")
	}
	replaces(t, "several", o, names(keep...), old)
	packsAre(t, "several", s, old+1, packs...)
	indexed(t, "several", s, old+1, packs...)
	has(t, "several", o, keep...)
	has(t, "another one", open(t, s), keep...)
}

func TestP1205ReplaceEarly(t *testing.T) {
	s, l := twoPacks(t)
	o := open(t, s)
	puts(t, "waits", o, object(7, 77))
	before := snapshot(s)
	for what, keep := range map[string][]api.Hash{"none": nil, "all": names(l...), "what waits": names(object(7, 77)), "what is not there": {{}}} {
		notReplaced(t, what, o, keep, api.Early)
	}
	if !maps.Equal(before, snapshot(s)) {
		t.Error("something was done")
	}
	has(t, "nothing has changed", o, append(l, object(7, 77))...)
	counts(t, "nothing has changed", o.Pending(), 1)
	goesDown(t, s)
	notReplaced(t, "down, too", o, names(l...), api.Early)
	ok(t, s.Up(0, nil))
	flushes(t, "flushed", o, 1)
	replaces(t, "flushed", o, names(l...), 3)
}

func TestP1205ReplaceMissing(t *testing.T) {
	s, l := twoPacks(t)
	o := open(t, s)
	before := snapshot(s)
	h := names(l...)
	near := h[2]
	near[31] ^= 1
	lost := named(object(9, 99))
	last := api.Hash(bytes.Repeat([]byte{255}, 32))
	for what, keep := range map[string][]api.Hash{
		"alone": {lost}, "the zero hash": {{}}, "first": {{}, h[0], h[1]}, "last": {h[0], h[1], last}, "between": {h[0], lost, h[1]}, "beside": {h[2], near}, "twice": {lost, lost},
	} {
		notReplaced(t, what, o, keep, api.Missing)
	}
	goesDown(t, s)
	notReplaced(t, "down, too", o, append(h, lost), api.Missing)
	ok(t, s.Up(0, nil), s.Flip("pack.1", 20, 1))
	notReplaced(t, "corrupt, too", o, append(h, lost), api.Missing)
	ok(t, s.Flip("pack.1", 20, 1))
	if !maps.Equal(before, snapshot(s)) {
		t.Error("something was done")
	}
	has(t, "nothing has changed", o, l...)
}

// One of keep is corrupt: nothing is done; one that is not kept may be.
func TestP1205ReplaceOfWhatIsCorrupt(t *testing.T) {
	s, l := twoPacks(t)
	o := open(t, s)
	ok(t, s.Flip("pack.2", 20, 1)) // l[4]
	before := snapshot(s)
	for i := range 5 {
		notReplaced(t, "corrupt", o, names(append(l[4:5:5], l[:i]...)...), api.Corrupt)
	}
	notReplaced(t, "all", o, names(l...), api.Corrupt)
	if !maps.Equal(before, snapshot(s)) {
		t.Error("something was done")
	}
	namesAre(t, "nothing has changed", o, names(l...)...)
	rest := append(slices.Clone(l[:4]), l[5])
	replaces(t, "without it", o, names(rest...), 2)
	has(t, "without it", o, rest...)
}

// Down comes from the first that is got; with no name, from the index that is saved.
func TestP1205ReplaceWhileDown(t *testing.T) {
	s, l := twoPacks(t)
	o := open(t, s)
	goesDown(t, s)
	for n := range 7 {
		notReplaced(t, "down", o, names(l[:n]...), api.Down)
	}
	ok(t, s.Up(0, nil))
	has(t, "up again", o, l...)
	replaces(t, "up again", o, names(l...), 2)
}

// No room for the new packs, or for the index: the old packs are still there.
func TestP1205ReplaceWithNoRoom(t *testing.T) {
	l := byName(objects(5000, 5000, 1853, 900)...)
	packs := parts(l...)
	wide := fresh(t, api.MaxDisk)
	holding(t, wide, l)
	used, old, first := wide.Used(), len(frames(l...)), len(frames(packs[0]...))
	for _, x := range []struct {
		what string
		room int
		laid int
		left []string
	}{
		{"the first pack", used + 2000, 0, nil},
		{"the second pack", used + first + 100, 1, nil},
		{"the index", used + old + 100, 2, []string{"tmp.index"}},
	} {
		s := moved(t, wide, x.room+300)
		put(t, s, "hay", make([]byte, 300))
		o := open(t, s)
		notReplaced(t, x.what, o, names(l...), api.NoSpace)
		want := []string{"hay", "index", "pack.1", "pack.2"}
		for i := range x.laid {
			want = append(want, packName(3+i))
		}
		sees(t, x.what, s, append(want, x.left...)...)
		packsAre(t, x.what, s, 1, packs...)
		packsAre(t, x.what, s, 3, packs[:x.laid]...)
		indexed(t, x.what, s, 1, packs...)
		has(t, x.what, o, l...)
		ok(t, s.Remove("hay"), s.Up(99, nil))
		has(t, x.what+", another one", open(t, s), l...)
		if n, f := o.Replace(nil); n != 2+x.laid || f != api.OK {
			t.Errorf("%s: Replace by none: %d, fault %d", x.what, n, f)
		}
	}
}

// No id is left for a pack: nothing is done, but by no name at all.
func TestP1205ReplaceBehindTheLastPack(t *testing.T) {
	s := fresh(t, api.MaxDisk)
	l := objects(3, 4)
	put(t, s, "pack.999999", frames(l...))
	o := open(t, s)
	before := snapshot(s)
	notReplaced(t, "no id", o, names(l...), api.TooLarge)
	if !maps.Equal(before, snapshot(s)) {
		t.Error("something was done")
	}
	has(t, "nothing has changed", o, l...)
	replaces(t, "by none", o, nil, 1)
	has(t, "by none", o)
}

// Packs that can't be loaded are there, and are dropped, too.
func TestP1205ReplaceDropsBrokenPacks(t *testing.T) {
	s, l := twoPacks(t)
	put(t, s, "pack.9", []byte("hay"))
	put(t, s, "pack.8", nil)
	put(t, s, "hay", []byte("hay"))
	o := open(t, s)
	replaces(t, "broken ones", o, names(l...), 4)
	sees(t, "broken ones", s, "hay", "index", "pack.10")
	has(t, "broken ones", o, l...)
}

// The system goes down ahead of each step. What was done stays done: the index tells the new
// packs as soon as it is saved, and old packs go one by one behind that.
func TestP1205ReplaceThatGoesDown(t *testing.T) {
	first, l := twoPacks(t)
	keep := byName(l[0], l[2], l[5])
	lay, save, drop := 3+4, 5, 2*2
	for steps := range lay + save + drop {
		s := first.Copy()
		o := open(t, s)
		ok(t, s.Arm(steps))
		notReplaced(t, "down", o, names(keep...), api.Down)
		if !s.Down() || s.Steps() != first.Steps()+int64(steps) {
			t.Fatalf("%d steps: Down %v, Steps %d", steps, s.Down(), s.Steps()-first.Steps())
		}
		saved := steps >= lay+save
		if saved {
			namesAre(t, "down", o, names(keep...)...)
		} else {
			namesAre(t, "down", o, names(l...)...)
		}
		notGot(t, "down", o, api.Down, names(keep...)...)
		ok(t, s.Up(99, slices.Repeat([]int{99999}, 9)))
		gets(t, "up again", o, keep...)
		var want []string
		if steps < lay+save+1 {
			want = append(want, "pack.1")
		}
		if steps < lay+save+3 {
			want = append(want, "pack.2")
		}
		if steps >= lay-1 {
			want = append(want, "pack.3")
		}
		if got := packsOf(s); !slices.Equal(got, want) {
			t.Errorf("packs %q, not %q", got, want)
		}
		gets(t, "another one", open(t, s.Copy()), keep...)
		replaces(t, "anew", o, names(keep...), len(want))
		has(t, "anew", o, keep...)
		counts(t, "anew", o.Bytes(), len(frames(keep...)))
		if t.Failed() {
			t.Fatalf("%d steps", steps)
		}
	}
	ok(t, first.Arm(lay+save+drop))
	replaces(t, "all steps", open(t, first), names(keep...), 2)
}
