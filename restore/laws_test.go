package restore_test

import (
	"math/rand"
	"slices"
	"strings"
	"testing"

	"hayloft/api"
	"hayloft/ingest"
	"hayloft/pack"
	"hayloft/restore"
	"hayloft/simfs"
	"hayloft/store"
	"hayloft/tree"
)

// isTree: under h stands just u: its leaves, its items, and no other.
func isTree(t *testing.T, what string, o *store.Store, h api.Hash, u tree.Tree) {
	t.Helper()
	restores(t, what, o, h, u)
	l, f := restore.Leaves(o, h)
	if f != api.OK || len(l) != len(u) {
		t.Errorf("%s: Leaves: %s, fault %d, not of %s", what, told(l), f, toldTree(u))
		return
	}
	for i, x := range u {
		if l[i].Path != x.Path || l[i].Dir != x.Dir || l[i].Size != len(x.Data) {
			t.Errorf("%s: leaf %d: %s, not of %s", what, i, told(l[i:i+1]), toldTree(u[i:i+1]))
		}
		item(t, what, o, h, x)
		if x.Dir {
			noFile(t, what+": "+x.Path, o, l[i].Hash, api.Corrupt)
			restores(t, what+": "+x.Path, o, l[i].Hash, lifted(u, x.Path))
		} else {
			files(t, what+": "+x.Path, o, l[i].Hash, string(x.Data))
			noLeaves(t, what+": "+x.Path, o, l[i].Hash, api.Corrupt)
		}
		beside(t, what, o, h, u, x)
	}
}

// lifted: what is in the directory p of u, as a tree of its own.
func lifted(u tree.Tree, p string) (v tree.Tree) {
	for _, x := range u {
		if name, in := strings.CutPrefix(x.Path, p+"/"); in {
			x.Path = name
			v = append(v, x)
		}
	}
	return v
}

// beside: paths that u has not have no item.
func beside(t *testing.T, what string, o *store.Store, h api.Hash, u tree.Tree, x api.Item) {
	t.Helper()
	for _, p := range []string{x.Path + "/q!", x.Path + "q", strings.TrimSuffix(x.Path, "a")} {
		if _, is := tree.Find(u, p); is {
			continue
		}
		switch {
		case !tree.Path(p):
			noItem(t, what, o, h, p, api.BadPath)
		case p == x.Path+"/q!" && !x.Dir:
			noItem(t, what, o, h, p, api.NotDir)
		default:
			noItem(t, what, o, h, p, api.NotFound)
		}
	}
}

func TestP1605IngestedIsRestored(t *testing.T) {
	for what, u := range rightTrees() {
		for where, at := range shapes(t) {
			o := empty(t)
			h := root(t, o, u)
			isTree(t, what+", "+where, at(o), h, u)
		}
	}
}

// Many trees in one store, which stand in one another's objects.
func TestP1605OneStore(t *testing.T) {
	o := empty(t)
	roots := map[string]api.Hash{}
	some := map[string]tree.Tree{}
	for what, u := range rightTrees() {
		if tree.Bytes(u) < 200 {
			some[what] = u
			roots[what] = root(t, o, u)
		}
	}
	for what, u := range some {
		isTree(t, what, o, roots[what], u)
	}
	flush(t, o)
	o = open(t, o.FS())
	for what, u := range some {
		isTree(t, what+", another Open", o, roots[what], u)
	}
}

// Bodies that Objects tell, put by hand, are the tree too.
func TestP1605ByHand(t *testing.T) {
	for what, u := range rightTrees() {
		from, o := empty(t), empty(t)
		l, f := ingest.Objects(from, u)
		ok(t, f)
		var h api.Hash
		for _, x := range l {
			h = put(t, o, x)
		}
		restores(t, what, o, h, u)
	}
}

// Without any one of its objects the tree is told by no call.
func TestP1605EachObjectIsNeeded(t *testing.T) {
	u := wood()
	from := empty(t)
	l, f := ingest.Objects(from, u)
	ok(t, f)
	top := from.Name(l[len(l)-1])
	for _, gone := range l {
		o := empty(t)
		for _, x := range l {
			if from.Name(x) != from.Name(gone) {
				put(t, o, x)
			}
		}
		want := api.Missing
		if from.Name(gone) == top {
			want = api.NotFound
		}
		noTree(t, "one is not there", o, top, want)
	}
}

// anyTree: a right one, of at most so many items.
func anyTree(r *rand.Rand, most int) tree.Tree {
	var u tree.Tree
	up := []string{""}
	for range most {
		p := strings.TrimPrefix(pick(r, up...)+"/"+anyName(r), "/")
		if r.Intn(3) == 0 {
			if v, f := tree.Mkdir(u, p); f == api.OK {
				u, up = v, append(up, p)
			}
		} else if v, f := tree.Write(u, p, []byte(counted(r.Intn(9), pick(r, 0, 1, 16, 64, 65, r.Intn(300), r.Intn(2001))))); f == api.OK {
			u = v
		}
	}
	return u
}

func TestP1605RandomTrees(t *testing.T) {
	r := rand.New(rand.NewSource(1605))
	for range 60 {
		o := empty(t)
		u, v := anyTree(r, r.Intn(50)), anyTree(r, r.Intn(20))
		h := root(t, o, u)
		if r.Intn(2) == 0 {
			flush(t, o)
		}
		g := root(t, o, v)
		isTree(t, "waits", o, h, u)
		isTree(t, "waits", o, g, v)
		flush(t, o)
		o = open(t, o.FS())
		isTree(t, "another Open", o, h, u)
		isTree(t, "another Open", o, g, v)
	}
}

// trueOrFault: what is told is the tree; else there is a fault that spoilt bytes may have.
func trueOrFault(t *testing.T, what string, o *store.Store, h api.Hash, u tree.Tree) bool {
	t.Helper()
	v, f := restore.Restore(o, h)
	if f == api.OK && !tree.Same(u, v) {
		t.Errorf("%s: another tree: %s", what, toldTree(v))
	}
	faults := []api.Fault{api.OK, api.Corrupt, api.Missing, api.NotFound}
	if !slices.Contains(faults, f) || f != api.OK && v != nil {
		t.Errorf("%s: %s, fault %d", what, toldTree(v), f)
	}
	for _, x := range u {
		y, g := restore.Item(o, h, x.Path)
		if g == api.OK && !tree.Same(of(x), of(y)) || !slices.Contains(faults, g) {
			t.Errorf("%s: %s: another item, or fault %d", what, x.Path, g)
		}
		if f == api.OK && g != api.OK {
			t.Errorf("%s: %s: fault %d in a tree that is right", what, x.Path, g)
		}
	}
	return f == api.OK
}

// Whatever byte of a pack is turned: a fault, or the tree as it was.
func TestP1605TurnedBytes(t *testing.T) {
	u := of(dir("a"), file("a/b", counted(1, 100)), file("a/c", ""), file("d", "x"), dir("e"))
	o := empty(t)
	h := root(t, o, u)
	flush(t, o)
	s := o.FS()
	n, f := s.Size(pack.Name(1))
	ok(t, f)
	whole := 0
	for at := range n {
		for _, by := range []byte{1, 128, 255} {
			turned := s.Copy()
			ok(t, turned.Flip(pack.Name(1), at, by), s.Flip(pack.Name(1), at, by))
			if trueOrFault(t, "turned", o, h, u) {
				whole++
			}
			ok(t, s.Flip(pack.Name(1), at, by))
			openedTurned(t, turned, h, u)
		}
	}
	if whole != 0 {
		t.Errorf("%d turned bytes of objects that are all needed changed nothing", whole)
	}
	isTree(t, "turned back", o, h, u)
}

// openedTurned: the same, of another Open, if there is one.
func openedTurned(t *testing.T, s *simfs.FS, h api.Hash, u tree.Tree) {
	t.Helper()
	if o, f := store.Open(s); f == api.OK {
		trueOrFault(t, "turned, another Open", o, h, u)
	}
}

// The same of many bytes at once, in packs and in the index.
func TestP1605ManyTurnedBytes(t *testing.T) {
	for seed := range int64(100) {
		r := rand.New(rand.NewSource(seed))
		o := empty(t)
		u := anyTree(r, 12)
		h := root(t, o, u)
		flush(t, o)
		s := o.FS()
		for range 1 + r.Intn(4) {
			name := pick(r, s.List()...)
			n, f := s.Size(name)
			ok(t, f)
			ok(t, s.Flip(name, r.Intn(n), byte(1+r.Intn(255))))
		}
		trueOrFault(t, "turned", o, h, u)
		openedTurned(t, s, h, u)
	}
}
