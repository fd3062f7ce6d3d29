package store_test

import (
	"slices"
	"testing"

	"hayloft/api"
	"hayloft/simfs"
	"hayloft/store"
)

// among: the store has nothing but of these.
func among(t *testing.T, o *store.Store, l ...store.Object) {
	t.Helper()
	all := names(l...)
	for _, h := range o.Names() {
		if !slices.Contains(all, h) {
			t.Error("something is there that was never put")
		}
	}
	if len(o.Verify()) != 0 {
		t.Error("something is corrupt")
	}
}

// broken: what a call of a store over a copy of first leaves, which goes down behind so many
// steps; then so many names and bytes survive.
func broken(t *testing.T, first *simfs.FS, steps, changes, cut int, call func(o *store.Store) api.Fault) *simfs.FS {
	t.Helper()
	s := first.Copy()
	o := open(t, s)
	ok(t, s.Arm(steps))
	if f := call(o); f != api.Down {
		t.Fatalf("%d steps: fault %d", steps, f)
	}
	ok(t, s.Up(changes, slices.Repeat([]int{cut}, 9)))
	return s
}

func TestP1207EachCrashWithinFlush(t *testing.T) {
	first := fresh(t, api.MaxDisk)
	old := objects(20, 2)
	holding(t, first, old)
	for n := 1; n <= 3; n++ {
		l := objects(3, 0, 7)[:n]
		for steps := range n + 4 + 5 {
			for changes := range 5 {
				for cut := range len(frames(l...)) + 2 {
					s := broken(t, first, steps, changes, cut, func(o *store.Store) api.Fault {
						puts(t, "put", o, l...)
						_, f := o.Flush()
						return f
					})
					o := open(t, s)
					gets(t, "flushed ahead", o, old...)
					among(t, o, append(l, old...)...)
					if steps >= n+4 {
						gets(t, "laid", o, l...)
					}
					if t.Failed() {
						t.Fatalf("%d objects, %d steps, %d names, %d bytes", n, steps, changes, cut)
					}
				}
			}
		}
	}
}

func TestP1207EachCrashWithinAFlushOfSeveralPacks(t *testing.T) {
	first := fresh(t, api.MaxDisk)
	old := objects(20, 2)
	holding(t, first, old)
	l := objects(5000, 5000, 1853, 5000, 7, 5000, 1800, 0)
	packs := parts(l...)
	counts(t, "packs", len(packs), 3)
	for steps := range len(l) + 4*len(packs) + 5 {
		for changes := range 5 {
			for _, cut := range []int{0, 1, 60, 5049, 12000} {
				s := broken(t, first, steps, changes, cut, func(o *store.Store) api.Fault {
					puts(t, "put", o, l...)
					_, f := o.Flush()
					return f
				})
				o := open(t, s)
				gets(t, "flushed ahead", o, old...)
				among(t, o, append(l, old...)...)
				puts(t, "anew", o, l...)
				flushes(t, "anew", o, o.Pending())
				has(t, "anew", open(t, s), append(l, old...)...)
				if t.Failed() {
					t.Fatalf("%d steps, %d names, %d bytes", steps, changes, cut)
				}
			}
		}
	}
}

// A crash ahead of each step of a Replace: between the index and the old packs, and between
// these, too. Another Open gets all that is kept; so does the store that it came over.
func TestP1207EachCrashWithinReplace(t *testing.T) {
	first := fresh(t, api.MaxDisk)
	l := objects(20, 2, 0, 33, 4)
	holding(t, first, l[:2], l[2:4], l[4:])
	for _, keep := range [][]store.Object{nil, l[:1], {l[0], l[2], l[4]}, l} {
		all := len(keep) + 5 + 2*3
		if len(keep) > 0 {
			all += 4
		}
		for steps := range all {
			for changes := range 6 {
				for _, cut := range []int{0, 1, 49, 70, 9999} {
					s := broken(t, first, steps, changes, cut, func(o *store.Store) api.Fault {
						_, f := o.Replace(names(keep...))
						return f
					})
					o := open(t, s)
					gets(t, "kept", o, keep...)
					among(t, o, l...)
					replaces(t, "anew", o, names(keep...), len(packsOf(s)))
					has(t, "anew", open(t, s), keep...)
					if t.Failed() {
						t.Fatalf("%d kept, %d steps, %d names, %d bytes", len(keep), steps, changes, cut)
					}
				}
			}
		}
		s := first.Copy()
		ok(t, s.Arm(all))
		replaces(t, "all steps", open(t, s), names(keep...), 3)
	}
}

func TestP1207EachCrashWithinAReplaceOfSeveralPacks(t *testing.T) {
	first := fresh(t, api.MaxDisk)
	l := objects(5000, 5000, 1853, 5000, 7, 4000, 1800, 0)
	holding(t, first, l)
	keep := append(slices.Clone(l[:5]), l[6])
	old, packs := parts(l...), parts(byName(keep...)...)
	for steps := range len(keep) + 4*len(packs) + 5 + 2*len(old) {
		for changes := range 6 {
			for _, cut := range []int{0, 60, 5049, 12000} {
				s := broken(t, first, steps, changes, cut, func(o *store.Store) api.Fault {
					_, f := o.Replace(names(keep...))
					return f
				})
				o := open(t, s)
				gets(t, "kept", o, keep...)
				among(t, o, l...)
				if t.Failed() {
					t.Fatalf("%d steps, %d names, %d bytes", steps, changes, cut)
				}
			}
		}
	}
}

// The store that a crash came over goes on once the system is up: what it had is got.
func TestP1207TheSameStoreBehindACrash(t *testing.T) {
	first := fresh(t, api.MaxDisk)
	l := objects(20, 2, 0, 33, 4)
	holding(t, first, l[:2], l[2:])
	keep := []store.Object{l[0], l[3]}
	for steps := range 2 + 4 + 5 + 2*2 {
		for changes := range 6 {
			s := first.Copy()
			o := open(t, s)
			ok(t, s.Arm(steps))
			notReplaced(t, "down", o, names(keep...), api.Down)
			ok(t, s.Up(changes, []int{40, 40, 40, 40}))
			gets(t, "up again", o, keep...)
			puts(t, "more", o, object(7, 70))
			flushes(t, "more", o, 1)
			gets(t, "more", o, append(keep, object(7, 70))...)
			gets(t, "more, another one", open(t, s), append(keep, object(7, 70))...)
			if t.Failed() {
				t.Fatalf("%d steps, %d names", steps, changes)
			}
		}
	}
}

// A crash within the Open behind a crash, too.
func TestP1207CrashWithinOpenBehindACrash(t *testing.T) {
	first := fresh(t, api.MaxDisk)
	l := objects(20, 2, 0, 33, 4)
	holding(t, first, l[:2], l[2:])
	keep := []store.Object{l[0], l[3]}
	for steps := range 2 + 4 + 5 + 2*2 {
		for changes := range 4 {
			left := broken(t, first, steps, changes, 60, func(o *store.Store) api.Fault {
				_, f := o.Replace(names(keep...))
				return f
			})
			for more := range 9 {
				for again := range 4 {
					s := left.Copy()
					ok(t, s.Arm(more))
					if _, f := store.Open(s); f != api.OK && f != api.Down {
						t.Fatalf("Open: fault %d", f)
					}
					ok(t, s.Up(again, []int{30, 30, 30, 30, 30}))
					o := open(t, s)
					gets(t, "kept", o, keep...)
					among(t, o, l...)
					if t.Failed() {
						t.Fatalf("%d steps, %d names, %d more, %d names", steps, changes, more, again)
					}
				}
			}
		}
	}
}

// What is put is got, behind flushes, replaces and another Open.
func TestP1207WhatIsPutIsGot(t *testing.T) {
	s := fresh(t, api.MaxDisk)
	o := open(t, s)
	var all []store.Object
	for i := range 30 {
		l := objects(i, 100+i, 3*i, 1000-i)
		puts(t, "put", o, l...)
		all = byName(append(all, l...)...)
		has(t, "put", o, all...)
		switch i % 4 {
		case 1:
			flushes(t, "flushed", o, o.Pending())
		case 3:
			flushes(t, "flushed", o, o.Pending())
			all = slices.DeleteFunc(all, func(x store.Object) bool { return x.Kind == 4 })
			if _, f := o.Replace(names(all...)); f != api.OK {
				t.Errorf("Replace: fault %d", f)
			}
			counts(t, "Bytes", o.Bytes(), len(frames(all...)))
			ok(t, s.Up(0, nil))
			o = open(t, s)
		}
		has(t, "got", o, all...)
	}
}
