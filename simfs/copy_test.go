package simfs_test

import (
	"math"
	"testing"

	"hayloft/api"
	"hayloft/simfs"
)

func TestP606Flip(t *testing.T) {
	s := fresh(t, 20)
	safeFile(t, s, "a", "abc")
	ok(t, s.Flip("a", 0, 0x20))
	holds(t, "the first byte", s, "a", "Abc")
	ok(t, s.Flip("a", 2, 0xFF))
	holds(t, "the last byte", s, "a", "Ab\x9c")
	ok(t, s.Flip("a", 1, 0))
	holds(t, "no bit", s, "a", "Ab\x9c")
	ok(t, s.Flip("a", 2, 0xFF), s.Flip("a", 0, 0x20))
	holds(t, "turned back", s, "a", "abc")
	if s.Steps() != 4 {
		t.Errorf("Steps %d", s.Steps())
	}
}

func TestP606FlipWrong(t *testing.T) {
	s := fresh(t, 20)
	safeFile(t, s, "a", "abc")
	ok(t, s.Create("b"))
	for _, at := range []int{-1, math.MinInt, 3, 4, math.MaxInt} {
		for _, by := range []byte{0, 1, 0xFF} {
			is(t, "no byte there", s.Flip("a", at, by), api.BadArg)
			is(t, "of no file", s.Flip("c", at, by), api.NotFound)
			is(t, "of no name", s.Flip("", at, by), api.BadPath)
		}
	}
	is(t, "of an empty file", s.Flip("b", 0, 1), api.BadArg)
	holds(t, "as they were", s, "a", "abc", "b", "")
}

// A byte that is turned is as safe as it was.
func TestP606FlipLeavesSafe(t *testing.T) {
	s := fresh(t, 20)
	safeFile(t, s, "a", "abc")
	ok(t, s.Append("a", []byte("def")), s.Flip("a", 1, 1), s.Flip("a", 3, 1), s.Flip("a", 5, 1))
	holds(t, "seen at once", s, "a", "acceeg")
	for cut, want := range []string{"acc", "acce", "accee", "acceeg"} {
		c := s.Copy()
		ok(t, c.Up(0, []int{cut}))
		holds(t, "safe, and not", c, "a", want)
	}
}

// A file is one, whatever name leads to it, and in whichever directory.
func TestP606FlipThroughAnotherName(t *testing.T) {
	s := fresh(t, 20)
	safeFile(t, s, "a", "abc")
	ok(t, s.Rename("a", "b"), s.Flip("b", 0, 0x20), s.Up(0, nil))
	holds(t, "the safe name", s, "a", "Abc")
}

func TestP606Copy(t *testing.T) {
	s := fresh(t, 10)
	safeFile(t, s, "a", "12")
	ok(t, s.Append("a", []byte("34")), s.Create("b"))
	c := s.Copy()
	holds(t, "as it is", c, "a", "1234", "b", "")
	if c.Steps() != s.Steps() || c.Down() {
		t.Errorf("Steps %d, Down %v", c.Steps(), c.Down())
	}
	// The first one is changed in every way.
	ok(t, s.Append("a", []byte("5")), s.Flip("a", 0, 0xFF), s.Fsync("a"), s.Append("b", []byte("x")), s.Create("c"), s.Rename("b", "d"), s.Remove("a"), s.SyncDir(), s.Arm(0))
	holds(t, "the copy", c, "a", "1234", "b", "")
	if c.Steps() != 6 || s.Steps() != 13 {
		t.Errorf("Steps %d, %d", c.Steps(), s.Steps())
	}
	// And the copy, while the first one is as it is now.
	is(t, "too much for the copy", c.Append("b", make([]byte, 7)), api.NoSpace)
	ok(t, c.Append("b", make([]byte, 6)), c.Remove("b"), c.Append("a", []byte("y")), c.Fsync("a"), c.Flip("a", 3, 1), c.Create("e"), c.SyncDir())
	holds(t, "the first one", s, "c", "", "d", "x")
	ok(t, s.Up(0, nil))
	holds(t, "the first one behind Up", s, "c", "", "d", "")
	ok(t, c.Up(0, nil))
	holds(t, "the copy behind Up", c, "a", "1235y", "e", "")
}

// What is not safe in one is not safe in the other, and the same changes wait.
func TestP606CopyKeepsWhatIsNotSafe(t *testing.T) {
	s, want := history(t)
	for n := range want {
		c := s.Copy().Copy()
		ok(t, c.Up(n, []int{99, 99}))
		holds(t, "a copy of a copy", c, want[n]...)
	}
	for n := range want {
		c, d := s.Copy(), s.Copy()
		ok(t, c.Up(n, []int{1, 1}), d.SyncDir())
		for _, name := range c.List() {
			if size, _ := c.Size(name); size != 1 {
				t.Errorf("%d changes: %s has %d bytes", n, name, size)
			}
		}
	}
	holds(t, "the first one", s, "b", "4444")
}

// Files that both directories lead to are shared in a copy too.
func TestP606CopySharesItsFiles(t *testing.T) {
	s := fresh(t, 30)
	safeFile(t, s, "a", "1")
	ok(t, s.Rename("a", "b"))
	file(t, s, "c", "2")
	ok(t, s.Rename("c", "d"))
	c := s.Copy()
	ok(t, c.Append("b", []byte("x")), c.Append("d", []byte("y")), c.Fsync("b"), c.Fsync("d"))
	for n, want := range [][]string{{"a", "1x"}, {"b", "1x"}, {"b", "1x", "c", "2y"}, {"b", "1x", "d", "2y"}} {
		d := c.Copy()
		ok(t, d.Up(n, nil))
		holds(t, "through any name", d, want...)
	}
	ok(t, s.Up(9, []int{9, 9}))
	holds(t, "the first one", s, "b", "1", "d", "2")
}

func TestP606CopyArmed(t *testing.T) {
	s := fresh(t, 10)
	ok(t, s.Create("a"), s.Arm(1))
	c := s.Copy()
	ok(t, s.Create("b"))
	is(t, "none is left of the first one", s.Create("c"), api.Down)
	if c.Down() {
		t.Error("the copy is down")
	}
	ok(t, c.Create("x"))
	is(t, "none is left of the copy", c.Create("y"), api.Down)

	d := c.Copy()
	if !d.Down() || len(d.List()) != 0 || d.Steps() != 2 || d.Used() != 0 {
		t.Errorf("a copy of what is down: Down %v, List %q, Steps %d", d.Down(), d.List(), d.Steps())
	}
	is(t, "of it", d.Create("z"), api.Down)
	ok(t, d.Up(9, nil))
	holds(t, "behind Up", d, "a", "", "x", "")
	if !c.Down() || !s.Down() {
		t.Error("Up of a copy is Up of the first one")
	}
	ok(t, d.Create("1"), d.Create("2"), s.Up(0, nil))
	holds(t, "the first one behind Up", s)
	ok(t, s.Arm(0))
	e := s.Copy()
	ok(t, s.Arm(5), s.Create("a"))
	is(t, "armed as the first one was", e.Create("a"), api.Down)
	if s.Down() {
		t.Error("the first one is down")
	}
}

// What was synced is there behind any Up, whatever is done to others, and wherever it goes down.
func TestP607WhatWasSyncedIsThere(t *testing.T) {
	work := []func(s *simfs.FS) api.Fault{
		func(s *simfs.FS) api.Fault { return s.Create("t") },
		func(s *simfs.FS) api.Fault { return s.Append("t", []byte("123")) },
		func(s *simfs.FS) api.Fault { return s.Append("b", []byte("456")) },
		func(s *simfs.FS) api.Fault { return s.Fsync("t") },
		func(s *simfs.FS) api.Fault { return s.Rename("t", "b") },
		func(s *simfs.FS) api.Fault { return s.Create("t") },
		func(s *simfs.FS) api.Fault { return s.Remove("b") },
		func(s *simfs.FS) api.Fault { return s.SyncDir() },
		func(s *simfs.FS) api.Fault { return s.Rename("t", "t") },
		func(s *simfs.FS) api.Fault { return s.Create("0") },
	}
	first := fresh(t, 100)
	safeFile(t, first, "b", "x")
	safeFile(t, first, "m", "kept")
	for steps := range len(work) + 1 {
		for names := -1; names <= len(work); names++ {
			for _, cuts := range [][]int{nil, {0, 0, 0, 0}, {9, 9, 9, 9}, {1, 2}, {-1, 1, -1, 1}} {
				s := first.Copy()
				ok(t, s.Arm(steps))
				for i, do := range work {
					if f := do(s); i < steps && f != api.OK || i >= steps && f != api.Down {
						t.Fatalf("armed by %d, step %d: fault %d", steps, i, f)
					}
				}
				ok(t, s.Up(names, cuts))
				if b, f := s.Read("m"); f != api.OK || string(b) != "kept" {
					t.Errorf("%d steps, %d names, cuts %v: %q, %v", steps, names, cuts, b, f)
				}
			}
		}
	}
}

// A file made ahead under another name and moved is there as a whole, or the old one is.
func TestP607WholeOrNot(t *testing.T) {
	work := []func(s *simfs.FS) api.Fault{
		func(s *simfs.FS) api.Fault { return s.Create("t") },
		func(s *simfs.FS) api.Fault { return s.Append("t", []byte("new")) },
		func(s *simfs.FS) api.Fault { return s.Fsync("t") },
		func(s *simfs.FS) api.Fault { return s.Rename("t", "a") },
		func(s *simfs.FS) api.Fault { return s.SyncDir() },
	}
	first := fresh(t, 100)
	safeFile(t, first, "a", "old")
	for steps := range len(work) + 1 {
		for names := range 4 {
			for cut := range 5 {
				s := first.Copy()
				ok(t, s.Arm(steps))
				for _, do := range work {
					do(s)
				}
				ok(t, s.Up(names, []int{cut, cut}))
				b, f := s.Read("a")
				if f != api.OK || string(b) != "old" && string(b) != "new" || steps == len(work) && string(b) != "new" {
					t.Errorf("%d steps, %d names, cut %d: %q, %v", steps, names, cut, b, f)
				}
			}
		}
	}
}
