package tree_test

import (
	"strings"
	"testing"

	"hayloft/api"
	"hayloft/tree"
)

// renames: no fault, and just these items.
func renames(t *testing.T, l tree.Tree, from, to string, want ...api.Item) {
	t.Helper()
	got, f := tree.Rename(l, from, to)
	made(t, "Rename "+from+" "+to, got, f, want...)
	if !tree.Right(got) {
		t.Errorf("Rename %s %s: %s is not right", from, to, told(got))
	}
}

// stays: Rename answers that fault.
func stays(t *testing.T, l tree.Tree, from, to string, want api.Fault) {
	t.Helper()
	got, f := tree.Rename(l, from, to)
	fails(t, "Rename "+from+" "+to, got, f, want)
}

func TestP1305RenameOfAFile(t *testing.T) {
	w := wood()
	renames(t, w, "f", "0", append(of(file("0", "12345")), w[:12]...)...)
	renames(t, w, "f", "a/a", put(w[:12], file("a/a", "12345"))...)
	renames(t, w, "f", "e/"+strings.Repeat("n", 20), put(w[:12], file("e/"+strings.Repeat("n", 20), "12345"))...)
	renames(t, w, "a/b/c/d", "d", put(append(of(w[:6]...), w[7:]...), file("d", "deep"))...)
	renames(t, w, "a!", "~", append(append(of(w[0]), w[2:]...), file("~", "not in a"))...)
	renames(t, w, "a/x", "a/y", append(append(of(w[:8]...), file("a/y", "x")), w[9:]...)...)
	renames(t, of(file("b", "")), "b", "a", file("a", ""))
	renames(t, of(dir("a"), file("a/b", "x")), "a/b", "a!", dir("a"), file("a!", "x"))
}

func TestP1305RenameOfADirectory(t *testing.T) {
	w := wood()
	renames(t, w, "a", "b",
		file("a!", "not in a"), dir("a.b"), file("a.b/c", ""), dir("a0"), file("ab", "behind a"),
		dir("b"), dir("b/b"), dir("b/b/c"), file("b/b/c/d", "deep"), file("b/b0", "beside a/b"), file("b/x", "x"), dir("e"), file("f", "12345"))
	renames(t, w, "a/b", "A",
		dir("A"), dir("A/c"), file("A/c/d", "deep"), dir("a"), file("a!", "not in a"), dir("a.b"), file("a.b/c", ""),
		file("a/b0", "beside a/b"), file("a/x", "x"), dir("a0"), file("ab", "behind a"), dir("e"), file("f", "12345"))
	renames(t, w, "a/b", "e/e",
		dir("a"), file("a!", "not in a"), dir("a.b"), file("a.b/c", ""), file("a/b0", "beside a/b"), file("a/x", "x"),
		dir("a0"), file("ab", "behind a"), dir("e"), dir("e/e"), dir("e/e/c"), file("e/e/c/d", "deep"), file("f", "12345"))
	renames(t, w, "e", "a/b/c/e",
		dir("a"), file("a!", "not in a"), dir("a.b"), file("a.b/c", ""), dir("a/b"), dir("a/b/c"), file("a/b/c/d", "deep"), dir("a/b/c/e"),
		file("a/b0", "beside a/b"), file("a/x", "x"), dir("a0"), file("ab", "behind a"), file("f", "12345"))
	renames(t, of(dir("a"), file("a/a", "x")), "a", "a!", dir("a!"), file("a!/a", "x"))
	renames(t, of(dir("a"), dir("a/a"), file("a/a/a", "x")), "a/a", "b", dir("a"), dir("b"), file("b/a", "x"))
	renames(t, of(dir("a"), dir("a/a"), file("a/a/a", "x")), "a/a", "aa", dir("a"), dir("aa"), file("aa/a", "x"))
}

// The items that were moved come between others that were not, as their bytes have it.
func TestP1305RenameKeepsTheOrderOfBytes(t *testing.T) {
	l := of(dir("a"), file("b", ""), file("b!", ""), dir("c"), dir("c/d"), file("c/d!", ""), file("c/d/e", ""))
	renames(t, l, "c", "a/b", dir("a"), dir("a/b"), dir("a/b/d"), file("a/b/d!", ""), file("a/b/d/e", ""), file("b", ""), file("b!", ""))
	renames(t, l, "c", "b.", dir("a"), file("b", ""), file("b!", ""), dir("b."), dir("b./d"), file("b./d!", ""), file("b./d/e", ""))
	renames(t, l, "b", "c/d\"", dir("a"), file("b!", ""), dir("c"), dir("c/d"), file("c/d!", ""), file("c/d\"", ""), file("c/d/e", ""))
	renames(t, of(dir("b"), file("b!", "1"), file("b/c", "2")), "b", "a", dir("a"), file("a/c", "2"), file("b!", "1"))
	renames(t, of(dir("a"), file("a/c", "2"), file("b!", "1")), "a", "b", dir("b"), file("b!", "1"), file("b/c", "2"))
}

func TestP1305RenameToItself(t *testing.T) {
	for _, l := range []tree.Tree{wood(), many(60), chain("d", 6), full()} {
		for _, x := range l {
			renames(t, l, x.Path, x.Path, l...)
		}
	}
}

func TestP1305RenameAtMaxItems(t *testing.T) {
	l := many(60)
	renames(t, l, "f0059", "a", append(of(file("a", "x")), l[:59]...)...)
	renames(t, l, "f0000", "z", append(of(l[1:]...), file("z", "x"))...)
	stays(t, l, "f0000", "f0059", api.Exists)
}

func TestP1305RenameOfNoPath(t *testing.T) {
	for _, p := range append(badParts(), "a/", "/a", "a//b", "a/.", "a/b c", deep("a", 7)) {
		if p == "a/b" {
			continue
		}
		stays(t, wood(), p, "b", api.BadPath)
		stays(t, wood(), "f", p, api.BadPath)
		stays(t, wood(), p, p, api.BadPath)
		stays(t, nil, p, "b", api.BadPath)
		stays(t, nil, "b", p, api.BadPath)
	}
}

func TestP1305RenameOfWhatIsNotThere(t *testing.T) {
	for _, p := range []string{"b", "A", "a/c", "aa", "f/a", "a/b/c/d/e", "b/c", deep("d", 6), "a."} {
		for _, to := range []string{"z", "f", "a", p, p + "!", "e/z", "b/z", "f/z"} {
			stays(t, wood(), p, to, api.NotFound)
			stays(t, nil, p, to, api.NotFound)
		}
	}
}

func TestP1305RenameToADirectoryThatIsNone(t *testing.T) {
	for _, from := range []string{"f", "a", "a/b", "e", "a/b/c/d"} {
		for _, to := range []string{"b/c", "a/c/d", "e/e/e", "f/a/b", "A/b", "aa/b", "a./b"} {
			stays(t, wood(), from, to, api.NotFound)
		}
		for _, to := range []string{"a!/b", "a/x/b", "ab/a", "a/b0/a", "f/a", "a/b/c/d/e"} {
			stays(t, wood(), from, to, api.NotDir)
		}
	}
}

func TestP1305RenameToWhatIsThere(t *testing.T) {
	for _, x := range wood() {
		for _, y := range wood() {
			if x.Path != y.Path {
				stays(t, wood(), x.Path, y.Path, api.Exists) // also what is within x, or x within it
			}
		}
	}
}

func TestP1305RenameIntoItself(t *testing.T) {
	stays(t, wood(), "a", "a/z", api.BadArg)
	stays(t, wood(), "a", "a/b/z", api.BadArg)
	stays(t, wood(), "a", "a/b/c/z", api.BadArg)
	stays(t, wood(), "a/b", "a/b/z", api.BadArg)
	stays(t, wood(), "e", "e/e", api.BadArg)
	stays(t, wood(), "a", "a/z/z", api.NotFound)
	stays(t, wood(), "f", "f/f", api.NotDir)
	stays(t, wood(), "a", "a/b/c/d/z", api.NotDir)
	stays(t, wood(), "a", "a/b", api.Exists)
	renames(t, of(dir("a")), "a", "aa", dir("aa"))
	renames(t, of(dir("a"), dir("aa")), "a", "aa/a", dir("aa"), dir("aa/a"))
	renames(t, of(dir("a"), dir("a!"), file("a/x", "")), "a", "a!/a", dir("a!"), dir("a!/a"), file("a!/a/x", ""))
	for i := 1; i < 6; i++ {
		stays(t, chain("d", 5), "d", deep("d", i)+"/a", api.BadArg)
	}
}

// What is within comes to stand too deep: 6 parts can be, 7 can't.
func TestP1305RenameToTooManyParts(t *testing.T) {
	for down := 1; down <= 6; down++ {
		for at := 1; at <= 6; at++ {
			l := append(chain("a", at-1), chain("b", down)...)
			to := strings.TrimPrefix(deep("a", at-1)+"/z", "/")
			if at+down-1 > 6 {
				stays(t, l, "b", to, api.BadPath)
				continue
			}
			want := append(chain("a", at-1), dir(to))
			for i := 2; i <= down; i++ {
				want = append(want, dir(to+strings.TrimPrefix(deep("b", i), "b")))
			}
			renames(t, l, "b", to, want...)
		}
	}
	stays(t, append(chain("a", 5), dir("b"), file("b!", ""), file("b/c", "")), "b", deep("a", 6), api.BadPath)
	renames(t, append(chain("a", 5), dir("b"), file("b!", "")), "b", deep("a", 6), append(chain("a", 6), file("b!", ""))...)
}

// Long names of few parts, or parts that are not too many: bytes of a path have no bound of their own.
func TestP1305RenameOfLongNames(t *testing.T) {
	long := strings.Repeat("n", 20)
	l := append(of(dir("a")), chain(long, 5)...)
	want := of(dir("a"))
	for i := 1; i <= 5; i++ {
		want = append(want, dir("a/"+deep(long, i)))
	}
	renames(t, l, long, "a/"+long, want...)
	renames(t, want, "a/"+long, long, l...)
}

func TestP1305RenameThereAndBack(t *testing.T) {
	w := wood()
	for _, x := range w {
		for _, to := range append(free(), "b/b", "f/f") {
			there, f := tree.Rename(w, x.Path, to)
			if f != api.OK {
				continue
			}
			renames(t, there, to, x.Path, w...)
		}
	}
}
