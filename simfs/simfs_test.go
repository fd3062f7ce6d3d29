package simfs_test

import (
	"bytes"
	"math"
	"slices"
	"strings"
	"testing"

	"hayloft/api"
	"hayloft/simfs"
)

// fresh: a file system of so much room.
func fresh(t *testing.T, room int) *simfs.FS {
	t.Helper()
	s, f := simfs.New(room)
	if s == nil || f != api.OK {
		t.Fatalf("New(%d): %v, %v", room, s, f)
	}
	return s
}

// ok: none of the calls has a fault.
func ok(t *testing.T, l ...api.Fault) {
	t.Helper()
	for i, f := range l {
		if f != api.OK {
			t.Fatalf("call %d: fault %d", i, f)
		}
	}
}

// is: the fault is that one.
func is(t *testing.T, what string, got, want api.Fault) {
	t.Helper()
	if got != want {
		t.Errorf("%s: fault %d, not %d", what, got, want)
	}
}

// holds: what is seen is just this: names and bytes by turns, names rising.
func holds(t *testing.T, what string, s *simfs.FS, want ...string) {
	t.Helper()
	var got []string
	used := 0
	for _, name := range s.List() {
		b, f := s.Read(name)
		n, g := s.Size(name)
		if f != api.OK || g != api.OK || n != len(b) {
			t.Errorf("%s: %s: Read %q, %d; Size %d, %d", what, name, b, f, n, g)
		}
		got = append(got, name, string(b))
		used += n
	}
	if !slices.Equal(got, want) {
		t.Errorf("%s: %q, not %q", what, got, want)
	}
	if s.Used() != used {
		t.Errorf("%s: Used %d, not %d", what, s.Used(), used)
	}
}

// file: a new one with these bytes, nothing of which is safe.
func file(t *testing.T, s *simfs.FS, name, text string) {
	t.Helper()
	ok(t, s.Create(name), s.Append(name, []byte(text)))
}

// safeFile: a new one with these bytes, all of which are safe, its name too.
func safeFile(t *testing.T, s *simfs.FS, name, text string) {
	t.Helper()
	file(t, s, name, text)
	ok(t, s.Fsync(name), s.SyncDir())
}

// call: one of the calls that tell a fault, with its zero results asked too.
type call struct {
	what string
	step bool
	do   func(s *simfs.FS, name string) api.Fault
}

func calls(t *testing.T) []call {
	return []call{
		{"Create", true, func(s *simfs.FS, name string) api.Fault { return s.Create(name) }},
		{"Append", true, func(s *simfs.FS, name string) api.Fault { return s.Append(name, []byte("x")) }},
		{"Append of nothing", true, func(s *simfs.FS, name string) api.Fault { return s.Append(name, nil) }},
		{"Rename from", true, func(s *simfs.FS, name string) api.Fault { return s.Rename(name, "z") }},
		{"Rename to", true, func(s *simfs.FS, name string) api.Fault { return s.Rename("a", name) }},
		{"Rename to itself", true, func(s *simfs.FS, name string) api.Fault { return s.Rename(name, name) }},
		{"Remove", true, func(s *simfs.FS, name string) api.Fault { return s.Remove(name) }},
		{"Fsync", true, func(s *simfs.FS, name string) api.Fault { return s.Fsync(name) }},
		{"Flip", false, func(s *simfs.FS, name string) api.Fault { return s.Flip(name, 0, 0) }},
		{"Read", false, func(s *simfs.FS, name string) api.Fault {
			b, f := s.Read(name)
			if f != api.OK && b != nil {
				t.Errorf("Read %q beside %v", b, f)
			}
			return f
		}},
		{"Size", false, func(s *simfs.FS, name string) api.Fault {
			n, f := s.Size(name)
			if f != api.OK && n != 0 {
				t.Errorf("Size %d beside %v", n, f)
			}
			return f
		}},
	}
}

// badNames: what no file may be named.
func badNames() []string {
	return []string{
		"", " ", "a b", " a", "a ", "/", "a/b", "/a", "a/", "\x00", "a\x00", "\x1f", "\n", "a\t", "\x7f", "a\x7f", "\x80", "\xff",
		"a\xff", "\xe4", "é", "aé", "日本", "\u2028", "\ufffd", strings.Repeat("a", 41), strings.Repeat("!", 41), strings.Repeat("a", 1000),
		strings.Repeat("a", 39) + "é", strings.Repeat("a", 39) + "/", strings.Repeat("a", 39) + " ",
	}
}

// goodNames: what a file may be named.
func goodNames() []string {
	return []string{
		"a", "!", "~", "!~", "0", ".", "..", "-", "\\", "*", "\"", "pack.1", "tmp.index", "A", "a.b,c;d:e", "}", "{",
		strings.Repeat("a", 39), strings.Repeat("a", 40), strings.Repeat("~", 40), strings.Repeat("!", 40),
	}
}

func TestP601New(t *testing.T) {
	for _, room := range []int{0, 1, 10, api.MaxDisk - 1, api.MaxDisk} {
		s := fresh(t, room)
		holds(t, "a new one", s)
		if s.Down() || s.Steps() != 0 {
			t.Errorf("room %d: Down %v, Steps %d", room, s.Down(), s.Steps())
		}
		ok(t, s.Create("a"))
		is(t, "one byte more than there is room for", s.Append("a", make([]byte, room+1)), api.NoSpace)
		is(t, "as many bytes as there is room for", s.Append("a", make([]byte, room)), api.OK)
	}
}

func TestP601NewWrong(t *testing.T) {
	for _, room := range []int{-1, -api.MaxDisk, math.MinInt, api.MaxDisk + 1, 1 << 32, math.MaxInt} {
		if s, f := simfs.New(room); s != nil || f != api.BadArg {
			t.Errorf("%d: %v, %v", room, s, f)
		}
	}
}

func TestP601Name(t *testing.T) {
	for _, s := range goodNames() {
		if !simfs.Name(s) {
			t.Errorf("%q: none", s)
		}
	}
	for _, s := range badNames() {
		if simfs.Name(s) {
			t.Errorf("%q: one", s)
		}
	}
}

func TestP601NameByEachByte(t *testing.T) {
	for c := range 256 {
		want := c >= '!' && c <= '~' && c != '/'
		for _, s := range []string{string([]byte{byte(c)}), string([]byte{'a', byte(c)}), string([]byte{byte(c), 'a'})} {
			if simfs.Name(s) != want {
				t.Errorf("%q: %v", s, !want)
			}
		}
	}
	for n := range 60 {
		if got, want := simfs.Name(strings.Repeat("x", n)), n >= 1 && n <= 40; got != want {
			t.Errorf("%d bytes: %v", n, got)
		}
	}
}

func TestP601GoodNamesAreTaken(t *testing.T) {
	s := fresh(t, 1000)
	for _, name := range goodNames() {
		file(t, s, name, name)
	}
	want := slices.Clone(goodNames())
	slices.Sort(want)
	if got := s.List(); !slices.Equal(got, want) {
		t.Errorf("%q", got)
	}
}

func TestP601BadPath(t *testing.T) {
	for _, c := range calls(t) {
		for _, name := range badNames() {
			s := fresh(t, 10)
			file(t, s, "a", "1")
			ok(t, s.Arm(0))
			is(t, c.what+" "+name, c.do(s, name), api.BadPath)
			if s.Down() || s.Steps() != 2 {
				t.Errorf("%s: Down %v, Steps %d", c.what, s.Down(), s.Steps())
			}
			holds(t, c.what, s, "a", "1")
		}
	}
	s := fresh(t, 10)
	is(t, "a name that is not there, to a bad one", s.Rename("a", "/"), api.BadPath)
	is(t, "a bad name, to a good one", s.Rename("/", "a"), api.BadPath)
}

// down: one that went down in a step, with a file a.
func down(t *testing.T) *simfs.FS {
	t.Helper()
	s := fresh(t, 10)
	file(t, s, "a", "1")
	ok(t, s.Arm(0))
	is(t, "a step too many", s.SyncDir(), api.Down)
	return s
}

func TestP601DownIsFirst(t *testing.T) {
	for _, c := range calls(t) {
		// A bad name, one that is not there, and one that is.
		for _, name := range []string{"", "a/b", "b", "a"} {
			s := down(t)
			is(t, c.what+" "+name, c.do(s, name), api.Down)
			if !s.Down() || s.Steps() != 2 {
				t.Errorf("%s: Down %v, Steps %d", c.what, s.Down(), s.Steps())
			}
			ok(t, s.Up(9, []int{9}))
			holds(t, c.what, s, "a", "1")
		}
	}
	s := down(t)
	is(t, "SyncDir", s.SyncDir(), api.Down)
	is(t, "Arm", s.Arm(3), api.Down)
	is(t, "Arm below 0", s.Arm(-1), api.Down)
	is(t, "Flip at no place", s.Flip("a", -1, 1), api.Down)
	is(t, "Append of too much", s.Append("a", make([]byte, 100)), api.Down)
	if l := s.List(); len(l) != 0 {
		t.Errorf("List: %q", l)
	}
	if n := s.Used(); n != 1 {
		t.Errorf("Used: %d", n)
	}
}

func TestP601NoStepLeftIsLast(t *testing.T) {
	wrong := []struct {
		what string
		do   func(s *simfs.FS) api.Fault
		want api.Fault
	}{
		{"Create", func(s *simfs.FS) api.Fault { return s.Create("a") }, api.Exists},
		{"Append", func(s *simfs.FS) api.Fault { return s.Append("b", nil) }, api.NotFound},
		{"Append of too much, to none", func(s *simfs.FS) api.Fault { return s.Append("b", make([]byte, 99)) }, api.NotFound},
		{"Append of too much", func(s *simfs.FS) api.Fault { return s.Append("a", make([]byte, 10)) }, api.NoSpace},
		{"Rename", func(s *simfs.FS) api.Fault { return s.Rename("b", "a") }, api.NotFound},
		{"Rename to itself", func(s *simfs.FS) api.Fault { return s.Rename("b", "b") }, api.NotFound},
		{"Remove", func(s *simfs.FS) api.Fault { return s.Remove("b") }, api.NotFound},
		{"Fsync", func(s *simfs.FS) api.Fault { return s.Fsync("b") }, api.NotFound},
	}
	for _, x := range wrong {
		s := fresh(t, 10)
		file(t, s, "a", "1")
		ok(t, s.Arm(0))
		is(t, x.what, x.do(s), x.want)
		if s.Down() {
			t.Errorf("%s: down by what is no step", x.what)
		}
		is(t, "a step, then", s.SyncDir(), api.Down)
		if !s.Down() {
			t.Errorf("%s: not down", x.what)
		}
	}
}

// Of nil, each call.
func TestP601Nil(t *testing.T) {
	var s *simfs.FS
	for _, c := range calls(t) {
		for _, name := range []string{"", "/", "a"} {
			is(t, c.what, c.do(s, name), api.Nil)
		}
	}
	is(t, "SyncDir", s.SyncDir(), api.Nil)
	is(t, "Arm", s.Arm(1), api.Nil)
	is(t, "Arm below 0", s.Arm(-1), api.Nil)
	is(t, "Up", s.Up(1, []int{1}), api.Nil)
	is(t, "Flip at no place", s.Flip("a", -1, 1), api.Nil)
	if s.Down() || len(s.List()) != 0 || s.Used() != 0 || s.Steps() != 0 || s.Copy() != nil {
		t.Error("something of nothing")
	}
}

// The zero one is as a new one without room.
func TestP601Zero(t *testing.T) {
	s := new(simfs.FS)
	holds(t, "zero", s)
	is(t, "SyncDir", s.SyncDir(), api.OK)
	is(t, "Up", s.Up(3, []int{4}), api.OK)
	holds(t, "its copy", s.Copy())
	is(t, "Remove", s.Remove("a"), api.NotFound)
	is(t, "Read", calls(t)[9].do(s, "a"), api.NotFound)
	ok(t, s.Create("a"), s.Append("a", nil), s.SyncDir())
	is(t, "a byte", s.Append("a", []byte("1")), api.NoSpace)
	ok(t, s.Up(0, nil))
	holds(t, "a file", s, "a", "")
	if s.Down() || s.Steps() != 4 {
		t.Errorf("Down %v, Steps %d", s.Down(), s.Steps())
	}
	ok(t, new(simfs.FS).Create("a"))
	c := new(simfs.FS).Copy()
	ok(t, c.Create("a"), c.SyncDir(), c.Up(0, nil))
	holds(t, "a copy of zero", c, "a", "")
}

func TestP602Create(t *testing.T) {
	s := fresh(t, 10)
	ok(t, s.Create("b"), s.Create("a"))
	holds(t, "two", s, "a", "", "b", "")
	ok(t, s.Append("a", []byte("12")))
	is(t, "one that is there", s.Create("a"), api.Exists)
	holds(t, "as they were", s, "a", "12", "b", "")
	ok(t, s.Remove("a"), s.Create("a"))
	holds(t, "removed, and made anew", s, "a", "", "b", "")
	if s.Steps() != 5 {
		t.Errorf("Steps %d", s.Steps())
	}
}

func TestP602Append(t *testing.T) {
	s := fresh(t, 10)
	ok(t, s.Create("a"), s.Create("b"), s.Append("a", []byte("123")), s.Append("b", []byte("x")), s.Append("a", []byte("45")))
	holds(t, "three", s, "a", "12345", "b", "x")
	ok(t, s.Append("a", nil), s.Append("b", []byte{}))
	holds(t, "and nothing", s, "a", "12345", "b", "x")
	is(t, "one byte too many", s.Append("a", []byte("67890")), api.NoSpace)
	is(t, "to no file", s.Append("c", nil), api.NotFound)
	holds(t, "as they were", s, "a", "12345", "b", "x")
	ok(t, s.Append("a", []byte("6789")))
	holds(t, "full", s, "a", "123456789", "b", "x")
	is(t, "a byte more", s.Append("b", []byte("y")), api.NoSpace)
	ok(t, s.Append("b", nil))
	if s.Steps() != 9 {
		t.Errorf("Steps %d", s.Steps())
	}
}

func TestP602RoomIsGivenBack(t *testing.T) {
	s := fresh(t, 10)
	safeFile(t, s, "a", "123456")
	file(t, s, "b", "1234")
	ok(t, s.Create("c"))
	is(t, "full", s.Append("c", []byte("1")), api.NoSpace)
	// What is not seen takes no room, though it is safe yet.
	ok(t, s.Remove("a"))
	is(t, "7 bytes", s.Append("c", []byte("1234567")), api.NoSpace)
	ok(t, s.Append("c", []byte("123456")))
	holds(t, "removed", s, "b", "1234", "c", "123456")
	ok(t, s.Rename("b", "c"))
	holds(t, "moved onto", s, "c", "1234")
	ok(t, s.Append("c", []byte("567890")))
	is(t, "full anew", s.Append("c", []byte("1")), api.NoSpace)
}

// What Up brings back may be more than there is room for; then even nothing is too much.
func TestP602MoreThanRoom(t *testing.T) {
	s := fresh(t, 10)
	safeFile(t, s, "a", "12345")
	safeFile(t, s, "b", "12345")
	ok(t, s.Remove("b"), s.Append("a", []byte("67890")), s.Fsync("a"), s.Up(0, nil))
	holds(t, "behind Up", s, "a", "1234567890", "b", "12345")
	is(t, "no byte", s.Append("a", nil), api.NoSpace)
	is(t, "a byte", s.Append("a", []byte("1")), api.NoSpace)
	ok(t, s.Remove("b"), s.Append("a", nil))
}

func TestP602ReadSize(t *testing.T) {
	s := fresh(t, 600)
	all := make([]byte, 256)
	for i := range all {
		all[i] = byte(i)
	}
	ok(t, s.Create("a"), s.Append("a", all), s.Append("a", all))
	b, f := s.Read("a")
	if f != api.OK || !bytes.Equal(b, append(bytes.Clone(all), all...)) {
		t.Errorf("Read %x, %v", b, f)
	}
	if n, f := s.Size("a"); n != 512 || f != api.OK {
		t.Errorf("Size %d, %v", n, f)
	}
	ok(t, s.Create("b"))
	if b, f := s.Read("b"); len(b) != 0 || f != api.OK {
		t.Errorf("Read %x, %v", b, f)
	}
	if n, f := s.Size("b"); n != 0 || f != api.OK {
		t.Errorf("Size %d, %v", n, f)
	}
	for _, c := range calls(t)[9:] {
		is(t, c.what, c.do(s, "c"), api.NotFound)
	}
	// Neither is a step.
	ok(t, s.Arm(0))
	s.Read("a")
	s.Size("a")
	if s.Down() || s.Steps() != 4 {
		t.Errorf("Down %v, Steps %d", s.Down(), s.Steps())
	}
}

func TestP602Rename(t *testing.T) {
	s := fresh(t, 10)
	file(t, s, "a", "1")
	file(t, s, "b", "22")
	ok(t, s.Rename("a", "c"))
	holds(t, "to a new name", s, "b", "22", "c", "1")
	ok(t, s.Rename("c", "b"))
	holds(t, "onto one that is there", s, "b", "1")
	ok(t, s.Rename("b", "b"))
	holds(t, "to itself", s, "b", "1")
	is(t, "of a name that is not there", s.Rename("a", "b"), api.NotFound)
	is(t, "of a name that is not there, to itself", s.Rename("a", "a"), api.NotFound)
	is(t, "of a name that is not there, to another such", s.Rename("a", "c"), api.NotFound)
	holds(t, "as it was", s, "b", "1")
	ok(t, s.Append("b", []byte("2")), s.Create("a"))
	holds(t, "both names", s, "a", "", "b", "12")
	if s.Steps() != 9 {
		t.Errorf("Steps %d", s.Steps())
	}
}

func TestP602Remove(t *testing.T) {
	s := fresh(t, 10)
	file(t, s, "a", "1")
	file(t, s, "b", "22")
	ok(t, s.Remove("a"))
	holds(t, "one", s, "b", "22")
	is(t, "again", s.Remove("a"), api.NotFound)
	for _, c := range calls(t)[1:] {
		if c.what != "Rename to" {
			is(t, c.what, c.do(s, "a"), api.NotFound)
		}
	}
	ok(t, s.Remove("b"))
	holds(t, "none", s)
}

func TestP602ListIsByBytes(t *testing.T) {
	s := fresh(t, 10)
	for _, name := range []string{"b", "a", "B", "aa", "a.", "~", "!", "10", "9", "ab", "Z"} {
		ok(t, s.Create(name))
	}
	want := []string{"!", "10", "9", "B", "Z", "a", "a.", "aa", "ab", "b", "~"}
	for range 20 {
		if got := s.List(); !slices.Equal(got, want) {
			t.Fatalf("%q", got)
		}
	}
}

// Rule 4: what comes in is left alone and not kept, what goes out is new.
func TestP602Memory(t *testing.T) {
	s := fresh(t, 100)
	ok(t, s.Create("a"), s.Create("b"))
	full := []byte("12345678")
	in := full[:4]
	ok(t, s.Append("a", in), s.Append("a", in))
	if string(full) != "12345678" {
		t.Errorf("what is handed in: %q", full)
	}
	copy(full, "xxxxxxxx")
	holds(t, "what was handed in, written over", s, "a", "12341234", "b", "")

	out, _ := s.Read("a")
	again, _ := s.Read("a")
	scribble(out)
	if string(again) != "12341234" {
		t.Errorf("read ahead: %q", again)
	}
	holds(t, "what was handed out, written over", s, "a", "12341234", "b", "")
	ok(t, s.Append("a", []byte("9")))
	scribble(again)
	holds(t, "its spare room too", s, "a", "123412349", "b", "")

	l := s.List()
	l[0], l[1] = "x", "y"
	holds(t, "names, written over", s, "a", "123412349", "b", "")
	_ = append(l[:0], "z")
	holds(t, "names, appended", s, "a", "123412349", "b", "")
}

// scribble writes into all of b, spare room too.
func scribble(b []byte) {
	b = b[:cap(b)]
	for i := range b {
		b[i] ^= 0xFF
	}
}
