package tree_test

import (
	"strings"
	"testing"

	"hayloft/tree"
)

func goodParts() []string {
	return []string{
		"a", "Z", "0", "!", "~", "-", "_", "*", "\\", `"`, "a.b", ".a", "a.", "...", "....", "..a", "a..", ".!",
		strings.Repeat("n", 20), strings.Repeat("n", 19), strings.Repeat("~", 20), strings.Repeat("!", 20), strings.Repeat(".", 20),
	}
}

func badParts() []string {
	return []string{
		"", ".", "..", "/", " ", "a ", " a", "a b", "\x1f", "\x7f", "a\x7f", "\x00", "a\x00", "\n", "\t", "\x80", "\xff", "a\xff",
		"é", "世", "a/b", "a/", "/a", strings.Repeat("n", 21), strings.Repeat("n", 22), strings.Repeat("n", 256+1),
		strings.Repeat(".", 21), strings.Repeat("é", 10), strings.Repeat("n", 19) + " ", strings.Repeat("n", 1<<16+1), strings.Repeat("/", 20),
	}
}

func TestP1301Part(t *testing.T) {
	for _, s := range goodParts() {
		if !tree.Part(s) {
			t.Errorf("%q is no part", s)
		}
	}
	for _, s := range badParts() {
		if tree.Part(s) {
			t.Errorf("%.30q is a part", s)
		}
	}
}

// Each byte alone, ahead of another one, behind it, and as the 20th.
func TestP1301PartOfEachByte(t *testing.T) {
	for i := range 256 {
		c := string([]byte{byte(i)})
		want := '!' <= i && i <= '~' && i != '/'
		for _, s := range []string{c + "a", "a" + c, "a" + c + "b", strings.Repeat("a", 19) + c} {
			if tree.Part(s) != want {
				t.Errorf("%q: a part is %v", s, !want)
			}
		}
		if tree.Part(c) != (want && i != '.') {
			t.Errorf("%q: a part is %v", c, !want)
		}
	}
}

func TestP1301PathOfOnePart(t *testing.T) {
	for _, s := range goodParts() {
		if !tree.Path(s) {
			t.Errorf("%q is no path", s)
		}
	}
	for _, s := range badParts() {
		if s != "a/b" && tree.Path(s) {
			t.Errorf("%.30q is a path", s)
		}
	}
}

// Of 2 to 8 parts, one of them any part, at each place.
func TestP1301PathOfSomeParts(t *testing.T) {
	for n := 2; n <= 8; n++ {
		for at := range n {
			with := func(part string) string {
				l := strings.Split(deep("d", n), "/")
				l[at] = part
				return strings.Join(l, "/")
			}
			for _, s := range goodParts() {
				if p := with(s); tree.Path(p) != (n <= 6) {
					t.Errorf("%q: a path is %v", p, n > 6)
				}
			}
			for _, s := range badParts() {
				if p := with(s); !strings.Contains(s, "a/b") && tree.Path(p) {
					t.Errorf("%.60q is a path", p)
				}
			}
		}
	}
}

func TestP1301PathAtItsEdges(t *testing.T) {
	long := strings.Repeat("n", 20)
	for _, s := range []string{deep("a", 6), deep(long, 6), deep("...", 6), deep(long, 5), "a/b/c/d/e/f", "!/~"} {
		if !tree.Path(s) {
			t.Errorf("%q is no path", s)
		}
	}
	for _, s := range []string{
		"", "/", "//", "/a", "a/", "/a/", "//a", "a//", "a//b", "a///b", "a/b/", "/a/b", "a/./b", "a/../b", "./a", "../a", "a/.", "a/..",
		deep("a", 7), deep(long, 7), deep("a", 6) + "/", "/" + deep("a", 6), "/" + deep("a", 5), deep("a", 5) + "/", deep("a", 3) + "//" + deep("a", 2),
		deep("a", 1<<18), strings.Repeat("/", 1<<20), deep(long+"n", 6),
	} {
		if tree.Path(s) {
			t.Errorf("%.60q is a path", s)
		}
	}
}

func TestP1301Split(t *testing.T) {
	long := strings.Repeat("n", 20)
	for _, c := range [][3]string{
		{"a", "", "a"},
		{"...", "", "..."},
		{"a/b", "a", "b"},
		{"a/b/c", "a/b", "c"},
		{"a.b/c!", "a.b", "c!"},
		{deep("a", 6), deep("a", 5), "a"},
		{deep(long, 6), deep(long, 5), long},
		{long, "", long},
	} {
		if d, name := tree.Split(c[0]); d != c[1] || name != c[2] {
			t.Errorf("%q: %q, %q, not %q, %q", c[0], d, name, c[1], c[2])
		}
	}
}

func TestP1301SplitOfNoPath(t *testing.T) {
	for _, s := range append(badParts(), "a//b", "a/./b", "a/..", "../a", "a/b c", deep("a", 7), deep("a", 6)+"/", "/"+deep("a", 5), "a/"+strings.Repeat("n", 21), strings.Repeat("n", 21)+"/a") {
		if s == "a/b" {
			continue
		}
		if d, name := tree.Split(s); d != "" || name != "" {
			t.Errorf("%.60q: %.30q, %.30q", s, d, name)
		}
	}
}
