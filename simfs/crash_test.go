package simfs_test

import (
	"math"
	"slices"
	"testing"

	"hayloft/api"
	"hayloft/simfs"
)

// The chapter's example.
func TestP603Example(t *testing.T) {
	s := fresh(t, 10)
	ok(t, s.Create("a"), s.Append("a", []byte("12")), s.Fsync("a"), s.Up(0, nil))
	holds(t, "Fsync without SyncDir", s)
}

func TestP603SyncDirWithoutFsync(t *testing.T) {
	s := fresh(t, 10)
	file(t, s, "a", "12")
	ok(t, s.SyncDir(), s.Up(0, nil))
	holds(t, "the name alone", s, "a", "")
}

func TestP603Both(t *testing.T) {
	s := fresh(t, 20)
	safeFile(t, s, "a", "12")
	ok(t, s.Append("a", []byte("345")))
	c := s.Copy()
	ok(t, s.Up(0, nil))
	holds(t, "bytes behind Fsync are not safe", s, "a", "12")
	ok(t, c.Fsync("a"), c.Up(0, nil))
	holds(t, "Fsync anew", c, "a", "12345")
}

func TestP603FsyncOfOneFile(t *testing.T) {
	s := fresh(t, 20)
	file(t, s, "a", "12")
	file(t, s, "b", "34")
	ok(t, s.SyncDir(), s.Fsync("b"), s.Up(0, nil))
	holds(t, "b alone", s, "a", "", "b", "34")
	is(t, "of none", s.Fsync("c"), api.NotFound)
}

// SyncDir is of names alone: bytes that come behind it are as safe as Fsync makes them.
func TestP603FsyncBehindSyncDir(t *testing.T) {
	s := fresh(t, 20)
	ok(t, s.Create("a"), s.SyncDir(), s.Append("a", []byte("12")), s.Fsync("a"), s.Append("a", []byte("3")), s.Up(0, nil))
	holds(t, "up to Fsync", s, "a", "12")
}

func TestP603SyncDirOfEachChange(t *testing.T) {
	s := fresh(t, 20)
	safeFile(t, s, "a", "1")
	safeFile(t, s, "b", "2")
	safeFile(t, s, "c", "3")
	ok(t, s.Remove("a"), s.Rename("b", "c"), s.Create("d"), s.Rename("d", "d"), s.SyncDir())
	is(t, "with nothing to do", s.SyncDir(), api.OK)
	ok(t, s.Up(0, nil))
	holds(t, "removed, moved onto, made", s, "c", "2", "d", "")
}

// A file that has one name that is seen and another that is safe is one file.
func TestP603FsyncThroughAnotherName(t *testing.T) {
	s := fresh(t, 20)
	safeFile(t, s, "a", "1")
	ok(t, s.Rename("a", "b"), s.Append("b", []byte("23")), s.Fsync("b"), s.Append("b", []byte("45")))
	for names, want := range []string{"a", "b"} {
		c := s.Copy()
		ok(t, c.Up(names, []int{1}))
		holds(t, "moved", c, want, "1234")
	}
}

func TestP604Arm(t *testing.T) {
	for n := range 5 {
		s := fresh(t, 20)
		ok(t, s.Create("a"), s.Arm(n))
		for i := range n {
			is(t, "a step that is left", s.Append("a", []byte("1")), api.OK)
			if s.Down() || s.Steps() != int64(i+2) {
				t.Errorf("Arm %d, step %d: Down %v, Steps %d", n, i, s.Down(), s.Steps())
			}
		}
		if s.Down() {
			t.Errorf("Arm %d: down ahead of the step", n)
		}
		is(t, "one step more", s.Append("a", []byte("1")), api.Down)
		if !s.Down() || s.Steps() != int64(n+1) || s.Used() != n {
			t.Errorf("Arm %d: Down %v, Steps %d, Used %d", n, s.Down(), s.Steps(), s.Used())
		}
		is(t, "and another", s.Append("a", []byte("1")), api.Down)
		ok(t, s.Up(9, []int{99}))
		if n, f := s.Size("a"); f != api.OK || n != int(s.Steps()-1) {
			t.Errorf("Size %d, %v", n, f)
		}
	}
}

// Each step that has none left does nothing, but goes down.
func TestP604ArmEachStep(t *testing.T) {
	steps := map[string]func(s *simfs.FS) api.Fault{
		"Create":            func(s *simfs.FS) api.Fault { return s.Create("c") },
		"Append":            func(s *simfs.FS) api.Fault { return s.Append("a", []byte("x")) },
		"Append of nothing": func(s *simfs.FS) api.Fault { return s.Append("a", nil) },
		"Rename":            func(s *simfs.FS) api.Fault { return s.Rename("a", "c") },
		"Rename onto":       func(s *simfs.FS) api.Fault { return s.Rename("a", "b") },
		"Rename to itself":  func(s *simfs.FS) api.Fault { return s.Rename("a", "a") },
		"Remove":            func(s *simfs.FS) api.Fault { return s.Remove("a") },
		"Fsync":             func(s *simfs.FS) api.Fault { return s.Fsync("a") },
		"SyncDir":           func(s *simfs.FS) api.Fault { return s.SyncDir() },
	}
	for what, do := range steps {
		s := fresh(t, 20)
		safeFile(t, s, "a", "1")
		ok(t, s.Append("a", []byte("2")), s.Create("b"))
		ok(t, s.Arm(0))
		is(t, what, do(s), api.Down)
		if !s.Down() || s.Steps() != 6 {
			t.Errorf("%s: Down %v, Steps %d", what, s.Down(), s.Steps())
		}
		least := s.Copy()
		ok(t, least.Up(0, nil), s.Up(9, []int{9, 9}))
		holds(t, what+", the least", least, "a", "1")
		holds(t, what+", the most", s, "a", "12", "b", "")

		ok(t, s.Arm(1))
		is(t, what+" with one left", do(s), api.OK)
		if s.Steps() != 7 {
			t.Errorf("%s with one left: Steps %d", what, s.Steps())
		}
		is(t, what+", then none is left", s.SyncDir(), api.Down)
	}
}

func TestP604ArmWrong(t *testing.T) {
	for _, n := range []int{-1, -5, math.MinInt} {
		s := fresh(t, 10)
		is(t, "below 0", s.Arm(n), api.BadArg)
		ok(t, s.Create("a"), s.Create("b"))
		// It stays armed as it was.
		ok(t, s.Arm(1))
		is(t, "below 0, armed", s.Arm(n), api.BadArg)
		is(t, "the step that is left", s.Create("c"), api.OK)
		is(t, "none is left", s.Create("d"), api.Down)
	}
}

func TestP604ArmAnew(t *testing.T) {
	s := fresh(t, 10)
	ok(t, s.Arm(0), s.Arm(2), s.Create("a"), s.Arm(1), s.Create("b"))
	is(t, "fewer", s.Create("c"), api.Down)
	ok(t, s.Up(9, nil), s.Arm(1), s.Arm(3), s.Create("c"), s.Create("d"), s.Arm(math.MaxInt), s.Create("e"), s.Create("f"), s.Arm(0))
	is(t, "none", s.Create("g"), api.Down)
	ok(t, s.Up(9, nil))
	holds(t, "all that was done", s, "a", "", "b", "", "c", "", "d", "", "e", "", "f", "")
}

// What is no step takes none of those that are left.
func TestP604NoStep(t *testing.T) {
	s := fresh(t, 3)
	file(t, s, "a", "12")
	ok(t, s.Arm(1))
	s.Create("a")
	s.Create("/")
	s.Append("a", []byte("34"))
	s.Append("b", nil)
	s.Rename("b", "a")
	s.Remove("b")
	s.Fsync("b")
	s.Read("a")
	s.Size("a")
	s.List()
	s.Used()
	s.Flip("a", 0, 1)
	s.Copy()
	s.Down()
	if s.Down() || s.Steps() != 2 {
		t.Errorf("Down %v, Steps %d", s.Down(), s.Steps())
	}
	is(t, "the step that is left", s.Append("a", nil), api.OK)
	s.Create("a")
	is(t, "Flip when none is left", s.Flip("a", 0, 1), api.OK)
	is(t, "Arm when none is left", s.Arm(0), api.OK)
	if s.Down() || s.Steps() != 3 {
		t.Errorf("Down %v, Steps %d", s.Down(), s.Steps())
	}
	is(t, "none is left", s.SyncDir(), api.Down)
}

func TestP604Steps(t *testing.T) {
	s := fresh(t, 10)
	do := []func() api.Fault{
		func() api.Fault { return s.Create("a") },
		func() api.Fault { return s.Append("a", []byte("1")) },
		func() api.Fault { return s.Append("a", nil) },
		func() api.Fault { return s.Fsync("a") },
		func() api.Fault { return s.SyncDir() },
		func() api.Fault { return s.SyncDir() },
		func() api.Fault { return s.Rename("a", "b") },
		func() api.Fault { return s.Rename("b", "b") },
		func() api.Fault { return s.Remove("b") },
	}
	for i, x := range do {
		ok(t, x())
		if s.Steps() != int64(i+1) {
			t.Errorf("step %d: Steps %d", i, s.Steps())
		}
	}
	// Up is none, and counts from there on.
	ok(t, s.Up(0, nil), s.Arm(0))
	is(t, "none is left", s.Create("x"), api.Down)
	is(t, "down", s.Create("x"), api.Down)
	if s.Steps() != 9 {
		t.Errorf("while it is down: Steps %d", s.Steps())
	}
	ok(t, s.Up(0, nil), s.Create("x"))
	if s.Steps() != 10 {
		t.Errorf("behind Up: Steps %d", s.Steps())
	}
}

// history: one whose changes, with nothing safe ahead of them, give after each just the files that are told.
func history(t *testing.T) (*simfs.FS, [][]string) {
	s := fresh(t, 100)
	file(t, s, "a", "1")  // 1
	file(t, s, "b", "22") // 2
	ok(t, s.Rename("a", "c"))
	ok(t, s.Remove("b"))
	file(t, s, "a", "333") // 5
	ok(t, s.Rename("a", "a"), s.Rename("c", "a"), s.Remove("a"))
	file(t, s, "b", "4444") // 9
	return s, [][]string{
		{}, {"a", "1"}, {"a", "1", "b", "22"}, {"b", "22", "c", "1"}, {"c", "1"}, {"a", "333", "c", "1"},
		{"a", "333", "c", "1"}, {"a", "1"}, {}, {"b", "4444"},
	}
}

func TestP605Names(t *testing.T) {
	s, want := history(t)
	most := []int{99, 99}
	for n := range want {
		c := s.Copy()
		ok(t, c.Up(n, most))
		holds(t, "the first changes", c, want[n]...)
		ok(t, c.Up(0, nil))
		holds(t, "all is safe then", c, want[n]...)
		ok(t, c.Up(99, nil))
		holds(t, "no change is left", c, want[n]...)
	}
	for _, n := range []int{-1, -9, math.MinInt} {
		c := s.Copy()
		ok(t, c.Up(n, most))
		holds(t, "names below 0", c)
	}
	for _, n := range []int{len(want), 1000, math.MaxInt} {
		c := s.Copy()
		ok(t, c.Up(n, most))
		holds(t, "more than there are", c, want[len(want)-1]...)
	}
}

func TestP605Cuts(t *testing.T) {
	s := fresh(t, 100)
	safeFile(t, s, "a", "12")
	safeFile(t, s, "b", "34")
	ok(t, s.Append("a", []byte("567")), s.Append("b", []byte("890")))
	tests := []struct {
		cuts []int
		a, b string
	}{
		{nil, "12", "34"}, {[]int{}, "12", "34"}, {[]int{0, 0}, "12", "34"},
		{[]int{1}, "125", "34"}, {[]int{0, 2}, "12", "3489"}, {[]int{3, 3}, "12567", "34890"},
		{[]int{4, 1}, "12567", "348"}, {[]int{-1, 1}, "12", "348"}, {[]int{math.MinInt, math.MaxInt}, "12", "34890"},
		{[]int{math.MaxInt, -7, 5}, "12567", "34"}, {[]int{2, 1, 9, 9, 9}, "1256", "348"},
	}
	for _, x := range tests {
		c := s.Copy()
		cuts := slices.Clone(x.cuts)
		ok(t, c.Up(0, x.cuts))
		holds(t, "cut", c, "a", x.a, "b", x.b)
		if !slices.Equal(cuts, x.cuts) {
			t.Errorf("cuts handed in: %v, not %v", x.cuts, cuts)
		}
		ok(t, c.Up(0, nil))
		holds(t, "all is safe then", c, "a", x.a, "b", x.b)
	}
}

// Cuts go by the names that are there behind Up, not by those that were seen ahead of it.
func TestP605CutsGoByTheNamesThatAreLeft(t *testing.T) {
	s := fresh(t, 100)
	file(t, s, "m", "1")
	file(t, s, "b", "22")
	ok(t, s.Rename("m", "a"), s.Remove("b"), s.Create("0"))
	c := s.Copy()
	ok(t, c.Up(2, []int{1, 0})) // b m
	holds(t, "made, made", c, "b", "2", "m", "")
	c = s.Copy()
	ok(t, c.Up(3, []int{1, 0})) // a b
	holds(t, "and moved", c, "a", "1", "b", "")
	c = s.Copy()
	ok(t, c.Up(4, []int{1, 0})) // a
	holds(t, "and removed", c, "a", "1")
	c = s.Copy()
	ok(t, c.Up(5, []int{0, 1})) // 0 a
	holds(t, "and made", c, "0", "", "a", "1")
}

// Bytes that were cut do not come back with what is appended then.
func TestP605AppendBehindUp(t *testing.T) {
	s := fresh(t, 10)
	safeFile(t, s, "a", "12")
	ok(t, s.Append("a", []byte("345678")), s.Up(0, []int{1}), s.Append("a", []byte("x")))
	holds(t, "appended", s, "a", "123x")
	ok(t, s.Append("a", []byte("567890")))
	is(t, "full", s.Append("a", []byte("1")), api.NoSpace)
	ok(t, s.Up(0, []int{2}))
	holds(t, "cut anew", s, "a", "123x5")
}

// What was removed and made anew is another file.
func TestP605RemoveAndCreate(t *testing.T) {
	s := fresh(t, 20)
	safeFile(t, s, "a", "12")
	ok(t, s.Remove("a"), s.Create("a"), s.Append("a", []byte("xyz")), s.Fsync("a"))
	for n, want := range [][]string{{"a", "12"}, {}, {"a", "xyz"}} {
		c := s.Copy()
		ok(t, c.Up(n, nil))
		holds(t, "removed and made", c, want...)
	}
	ok(t, s.SyncDir(), s.Up(0, nil))
	holds(t, "behind SyncDir", s, "a", "xyz")
}

// A move onto a name is one change: either that leads to the old file, or to the new one.
func TestP605RenameOnto(t *testing.T) {
	s := fresh(t, 20)
	safeFile(t, s, "a", "12")
	file(t, s, "t", "xyz")
	ok(t, s.Fsync("t"), s.Rename("t", "a"))
	for n, want := range [][]string{{"a", "12"}, {"a", "12", "t", "xyz"}, {"a", "xyz"}} {
		c := s.Copy()
		ok(t, c.Up(n, nil))
		holds(t, "moved onto", c, want...)
	}
}

func TestP605UpWhileUp(t *testing.T) {
	s := fresh(t, 20)
	safeFile(t, s, "a", "12")
	ok(t, s.Append("a", []byte("3")), s.Create("b"))
	if s.Down() {
		t.Error("down")
	}
	ok(t, s.Up(0, nil))
	holds(t, "as if it went down", s, "a", "12")
	if s.Down() || s.Steps() != 6 {
		t.Errorf("Down %v, Steps %d", s.Down(), s.Steps())
	}
	ok(t, s.Create("b"), s.SyncDir())
}

func TestP605UpWhileArmed(t *testing.T) {
	for n := range 3 {
		s := fresh(t, 20)
		safeFile(t, s, "a", "12")
		ok(t, s.Arm(n), s.Up(0, nil))
		for _, name := range []string{"b", "c", "d", "e"} {
			is(t, "nothing is armed", s.Create(name), api.OK)
		}
	}
}

func TestP605UpWhileDown(t *testing.T) {
	s := fresh(t, 20)
	safeFile(t, s, "a", "12")
	ok(t, s.Arm(1), s.Append("a", []byte("3")))
	is(t, "none is left", s.Fsync("a"), api.Down)
	ok(t, s.Up(0, nil))
	holds(t, "behind it", s, "a", "12")
	for _, name := range []string{"b", "c", "d"} {
		is(t, "nothing is armed", s.Create(name), api.OK)
	}
}

// Behind Up both directories are apart again.
func TestP605ChangesBehindUp(t *testing.T) {
	s := fresh(t, 20)
	safeFile(t, s, "a", "12")
	ok(t, s.Up(0, nil), s.Create("b"), s.Remove("a"), s.Up(0, nil))
	holds(t, "none of them", s, "a", "12")
	ok(t, s.Create("b"), s.Remove("a"), s.Up(1, nil))
	holds(t, "the first", s, "a", "12", "b", "")
}

func TestP605UpOfNothing(t *testing.T) {
	s := fresh(t, 20)
	ok(t, s.Up(5, []int{1, 2, 3}))
	holds(t, "empty", s)
	ok(t, s.Create("a"))
}
