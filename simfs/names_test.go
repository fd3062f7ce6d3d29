package simfs

import (
	"testing"

	"hayloft/api"
)

// No call leads two names of one directory to one file, so they are laid here by hand.
func TestP605OfTwoNamesTheFirstCounts(t *testing.T) {
	tests := []struct {
		cuts []int
		want string
	}{
		{nil, "12"}, {[]int{1}, "123"}, {[]int{1, 2}, "123"}, {[]int{0, 2}, "12"}, {[]int{2, 1}, "1234"}, {[]int{9, 0}, "12345"}, {[]int{-1, 9}, "12"},
	}
	for _, x := range tests {
		f := &file{bytes: []byte("12345"), safe: 2}
		s := &FS{room: 10, seen: directory{}, safe: directory{"b": f, "a": f}}
		if g := s.Up(0, x.cuts); g != api.OK {
			t.Fatalf("cuts %v: fault %d", x.cuts, g)
		}
		for _, name := range []string{"a", "b"} {
			if b, g := s.Read(name); string(b) != x.want || g != api.OK {
				t.Errorf("cuts %v: %s: %q, %v", x.cuts, name, b, g)
			}
		}
	}
}
