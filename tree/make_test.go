package tree_test

import (
	"slices"
	"strings"
	"testing"

	"hayloft/api"
	"hayloft/tree"
)

// makes: Mkdir, and Write of one byte, which have most faults alike.
func makes() map[string]func(l tree.Tree, p string) (tree.Tree, api.Fault) {
	return map[string]func(l tree.Tree, p string) (tree.Tree, api.Fault){
		"Mkdir": tree.Mkdir,
		"Write": func(l tree.Tree, p string) (tree.Tree, api.Fault) { return tree.Write(l, p, []byte("x")) },
	}
}

// put: l with x, at its place by bytes.
func put(l tree.Tree, x api.Item) tree.Tree {
	l = append(slices.Clone(l), x)
	slices.SortFunc(l, func(a, b api.Item) int { return strings.Compare(a.Path, b.Path) })
	return l
}

// free: paths at which wood has room for something.
func free() []string {
	return []string{
		"!", "0", "b", "z", "~", "a\"", "a-", "a1", "aa", "...", strings.Repeat("n", 20), "a/!", "a/a", "a/b!", "a/b.", "a/b1", "a/z", "a/b/!", "a/b/d",
		"a/b/c/!", "a/b/c/e", "a/b/c/" + strings.Repeat("~", 20), "a.b/!", "a.b/d", "a0/a", "e/a", "e/e", "e/...", "a/a0",
	}
}

func TestP1303MkdirAndWriteOfWhatIsNotThere(t *testing.T) {
	for _, p := range free() {
		l, f := tree.Mkdir(wood(), p)
		made(t, "Mkdir "+p, l, f, put(wood(), dir(p))...)
		l, f = tree.Write(wood(), p, []byte("new"))
		made(t, "Write "+p, l, f, put(wood(), file(p, "new"))...)
		if !strings.Contains(p, "/") {
			l, f = tree.Mkdir(nil, p)
			made(t, "Mkdir in nothing, "+p, l, f, dir(p))
			l, f = tree.Write(tree.Tree{}, p, []byte("new"))
			made(t, "Write in nothing, "+p, l, f, file(p, "new"))
		}
	}
}

func TestP1303MkdirOfAChain(t *testing.T) {
	for _, part := range []string{"d", strings.Repeat("n", 20), "..."} {
		var l tree.Tree
		var f api.Fault
		for i := 1; i <= 6; i++ {
			l, f = tree.Mkdir(l, deep(part, i))
			made(t, "Mkdir", l, f, chain(part, i)...)
		}
		none, f := tree.Mkdir(l, deep(part, 7))
		fails(t, "Mkdir of 7 parts", none, f, api.BadPath)
		none, f = tree.Write(l, deep(part, 7), nil)
		fails(t, "Write of 7 parts", none, f, api.BadPath)
		five := chain(part, 5)
		l, f = tree.Write(five, deep(part, 6), []byte("x"))
		made(t, "Write of 6 parts", l, f, append(five, file(deep(part, 6), "x"))...)
	}
}

func TestP1303BadPath(t *testing.T) {
	for what, call := range makes() {
		for _, p := range append(badParts(), "a/", "/a", "a//b", "a/.", "a/../b", "a/b c", "a/b/", "a!/", "f/", deep("a", 7), "a/"+strings.Repeat("n", 21)) {
			if p == "a/b" {
				continue
			}
			l, f := call(wood(), p)
			fails(t, what, l, f, api.BadPath)
			l, f = call(nil, p)
			fails(t, what+" in nothing", l, f, api.BadPath)
			l, f = call(many(60), p)
			fails(t, what+" in 60 items", l, f, api.BadPath)
		}
	}
}

func TestP1303NotFoundAndNotDir(t *testing.T) {
	for what, call := range makes() {
		for _, p := range []string{"b/c", "a/c/d", "e/a/b", "a/b/c/e/f", "a/B/c", "A/b", "b!/a", "aa/b", "a./b", "f/a/b", "a/x/a/b", "a/b/c/d/e/f"} {
			l, f := call(wood(), p)
			fails(t, what+" "+p, l, f, api.NotFound)
			l, f = call(nil, p)
			fails(t, what+" in nothing, "+p, l, f, api.NotFound)
		}
		for _, p := range []string{"a!/b", "a/b/c/d/e", "a/b0/c", "a/x/y", "ab/a", "f/a", "f/...", "a.b/c/d"} {
			l, f := call(wood(), p)
			fails(t, what+" "+p, l, f, api.NotDir)
		}
	}
}

func TestP1303OfWhatIsThere(t *testing.T) {
	for i, x := range wood() {
		l, f := tree.Mkdir(wood(), x.Path)
		fails(t, "Mkdir "+x.Path, l, f, api.Exists)
		for _, data := range []string{"", "y", "some more than there was", strings.Repeat("y", 2000)} {
			l, f = tree.Write(wood(), x.Path, []byte(data))
			if x.Dir {
				fails(t, "Write "+x.Path, l, f, api.IsDir)
				continue
			}
			want := wood()
			want[i].Data = []byte(data)
			made(t, "Write "+x.Path, l, f, want...)
		}
	}
}

func TestP1303WriteOfSomeBytes(t *testing.T) {
	all := make([]byte, 256)
	for i := range all {
		all[i] = byte(i)
	}
	for _, data := range []string{"", "\x00", "x", string(all), strings.Repeat("\xff", 1999), strings.Repeat("\x00", 2000)} {
		l, f := tree.Write(nil, "a", []byte(data))
		made(t, "Write", l, f, file("a", data))
		l, f = tree.Write(l, "a", nil)
		made(t, "Write of nil", l, f, file("a", ""))
		l, f = tree.Write(l, "a", []byte{})
		made(t, "Write of none", l, f, file("a", ""))
	}
	for _, n := range []int{2001, 2002, 4000, 65536 + 5, 1<<24 + 1} {
		l, f := tree.Write(nil, "a", make([]byte, n))
		fails(t, "Write", l, f, api.TooLarge)
		l, f = tree.Write(wood(), "a/x", make([]byte, n))
		fails(t, "Write of what is there", l, f, api.TooLarge)
	}
}

// With 59 there is room for one more, with 60 for none; what is there can be written still.
func TestP1303AtMaxItems(t *testing.T) {
	for what, call := range makes() {
		for _, p := range []string{"a", "z", "f0030!"} {
			l, f := call(many(59), p)
			x, _ := tree.Find(l, p)
			made(t, what, l, f, put(many(59), x)...)
			l, f = call(many(60), p)
			fails(t, what+" of the 61st", l, f, api.TooLarge)
		}
	}
	for i, x := range many(60) {
		want := many(60)
		want[i].Data = []byte("other")
		l, f := tree.Write(many(60), x.Path, []byte("other"))
		made(t, "Write of one of 60", l, f, want...)
		l, f = tree.Mkdir(many(60), x.Path)
		fails(t, "Mkdir of one of 60", l, f, api.Exists)
	}
}

// At MaxItems, within directories.
func TestP1303AtMaxItemsDeep(t *testing.T) {
	l := append(chain("d", 5), many(55)...)
	if !tree.Right(l) || len(l) != 60 {
		t.Fatal("not 60 items")
	}
	for _, p := range []string{deep("d", 6), deep("d", 5) + "/a", "d/a", "g"} {
		none, f := tree.Mkdir(l, p)
		fails(t, "Mkdir", none, f, api.TooLarge)
		none, f = tree.Write(l, p, nil)
		fails(t, "Write", none, f, api.TooLarge)
	}
	none, f := tree.Mkdir(l, "d/a/b")
	fails(t, "Mkdir", none, f, api.NotFound)
	none, f = tree.Write(l, "f0001/b", nil)
	fails(t, "Write", none, f, api.NotDir)
	none, f = tree.Write(l, deep("d", 5), nil)
	fails(t, "Write", none, f, api.IsDir)
	none, f = tree.Mkdir(l, deep("d", 5))
	fails(t, "Mkdir", none, f, api.Exists)
}
