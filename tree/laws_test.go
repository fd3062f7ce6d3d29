package tree_test

import (
	"fmt"
	"math/rand"
	"strings"
	"testing"

	"hayloft/api"
	"hayloft/tree"
)

// agrees: what was answered of l is the answer by the chapter's words, and right.
func agrees(t *testing.T, what string, l, got tree.Tree, f api.Fault, want tree.Tree, fault api.Fault) {
	t.Helper()
	if f != fault || !same(got, want) {
		t.Fatalf("%s of %s: fault %d, %s, not %d, %s", what, told(l), f, told(got), fault, told(want))
	}
	if !tree.Right(got) {
		t.Fatalf("%s of %s: %s is not right", what, told(l), told(got))
	}
}

// anyData: of few bytes, at the edge, or beyond it.
func anyData(r *rand.Rand) []byte {
	return []byte(strings.Repeat("y", pick(r, 0, 1, 2, 3, 4, 5, 1999, 2000, 2001)))
}

// agreesOnOne: all calls, with some paths, of l; what faults came is counted.
func agreesOnOne(t *testing.T, r *rand.Rand, l tree.Tree, seen map[string]int) {
	t.Helper()
	p, to, data, deeply := anyPath(r, l), anyPath(r, l), anyData(r), r.Intn(2) == 0

	got, f := tree.Mkdir(l, p)
	want, fault := wordsMake(l, p, true, nil)
	agrees(t, "P1303: Mkdir "+p, l, got, f, want, fault)
	seen[fmt.Sprint("Mkdir ", int(f))]++

	got, f = tree.Write(l, p, data)
	want, fault = wordsMake(l, p, false, data)
	agrees(t, "P1303: Write "+p, l, got, f, want, fault)
	seen[fmt.Sprint("Write ", int(f))]++

	got, f = tree.Remove(l, p, deeply)
	want, fault = wordsRemove(l, p, deeply)
	agrees(t, "P1304: Remove "+p, l, got, f, want, fault)
	seen[fmt.Sprint("Remove ", int(f))]++

	got, f = tree.Rename(l, p, to)
	want, fault = wordsRename(l, p, to)
	agrees(t, "P1305: Rename "+p+" "+to, l, got, f, want, fault)
	seen[fmt.Sprint("Rename ", int(f))]++

	if tree.Right(l) != wordsRight(l) || tree.Path(p) != wordsPath(p) {
		t.Fatalf("P1301: Right of %s, or Path of %q, is not as the words say", told(l), p)
	}
	x, ok := tree.Find(l, p)
	y, is := wordsFind(l, p)
	if ok != is || !same(tree.Tree{x}, tree.Tree{y}) || !same(tree.Under(l, p), wordsUnder(l, p)) {
		t.Fatalf("P1302: Find, or Under, of %q in %s: %s, %v; %s", p, told(l), told(tree.Tree{x}), ok, told(tree.Under(l, p)))
	}
}

// Whatever tree, right or not, and whatever paths: all calls do as the chapter's words say.
func TestP1306ByTheWords(t *testing.T) {
	r := rand.New(rand.NewSource(1306))
	seen := map[string]int{}
	for i := range 20000 {
		l := anyTree(r, []int{4, 15, 40, 300}[i%4])
		if i%5 == 0 {
			l = anyWrong(r, 20)
		}
		agreesOnOne(t, r, l, seen)
	}
	for _, x := range []string{"Mkdir 0 1 10 5 7 6 2", "Write 0 1 10 5 7 8 2", "Remove 0 1 10 5 9", "Rename 0 1 10 5 7 6"} {
		w := strings.Fields(x)
		for _, fault := range w[1:] {
			if seen[w[0]+" "+fault] < 100 {
				t.Errorf("%s: fault %s hardly came: %v", w[0], fault, seen)
			}
		}
	}
}

// anyEdit does one of the edits to l, and asks the words what comes of it.
func anyEdit(t *testing.T, r *rand.Rand, l tree.Tree, deeply bool) tree.Tree {
	t.Helper()
	p, to, data := anyPath(r, l), anyPath(r, l), anyData(r)
	var got, want tree.Tree
	var f, fault api.Fault
	switch n := r.Intn(10); {
	case n < 3:
		got, f = tree.Mkdir(l, p)
		want, fault = wordsMake(l, p, true, nil)
	case n < 6:
		got, f = tree.Write(l, p, data)
		want, fault = wordsMake(l, p, false, data)
	case n < 8:
		got, f = tree.Rename(l, p, to)
		want, fault = wordsRename(l, p, to)
	default:
		got, f = tree.Remove(l, p, deeply)
		want, fault = wordsRemove(l, p, deeply)
	}
	agrees(t, "an edit of "+p, l, got, f, want, fault)
	if f != api.OK {
		return l
	}
	return got
}

// Edits one behind the other, of one tree, which grows till it is full, and shrinks.
func TestP1306ManyEdits(t *testing.T) {
	r := rand.New(rand.NewSource(1306))
	var l tree.Tree
	full := 0
	for i := range 10000 {
		l = anyEdit(t, r, l, i%1000 > 970)
		if len(l) == 60 {
			full++
		}
	}
	if full < 100 {
		t.Errorf("%d times full", full)
	}
}

// What is written is found, and all else is as it was.
func TestP1306WhatIsWrittenIsFound(t *testing.T) {
	r := rand.New(rand.NewSource(1306))
	done := 0
	for range 4000 {
		l := anyTree(r, 40)
		p, data := anyPath(r, l), anyData(r)
		got, f := tree.Write(l, p, data)
		if f != api.OK {
			continue
		}
		done++
		finds(t, got, file(p, string(data)))
		for _, x := range l {
			if x.Path != p {
				finds(t, got, x)
			}
		}
		again, f := tree.Write(got, p, data)
		made(t, "written twice", again, f, got...)
		if _, there := tree.Find(l, p); !there {
			back, f := tree.Remove(got, p, false)
			made(t, "written, and removed", back, f, l...)
		}
	}
	if done < 500 {
		t.Errorf("only %d were written", done)
	}
}

// A rename there and back is nothing; and what is within, and how many bytes, stays.
func TestP1306RenameThereAndBack(t *testing.T) {
	r := rand.New(rand.NewSource(1306))
	done := 0
	for range 6000 {
		l := anyTree(r, 40)
		from, to := anyPath(r, l), anyPath(r, l)
		there, f := tree.Rename(l, from, to)
		if f != api.OK {
			continue
		}
		done++
		back, f := tree.Rename(there, to, from)
		made(t, "there and back", back, f, l...)
		if a, b := tree.Under(l, from), tree.Under(there, to); len(a) != len(b) || tree.Bytes(a) != tree.Bytes(b) || len(l) != len(there) {
			t.Errorf("Rename %s %s of %s: %s", from, to, told(l), told(there))
		}
	}
	if done < 500 {
		t.Errorf("only %d were renamed", done)
	}
}

// A directory that is made is found, has nothing within, and is removed as if it had not been.
func TestP1306WhatIsMadeIsFound(t *testing.T) {
	r := rand.New(rand.NewSource(1306))
	for range 3000 {
		l := anyTree(r, 40)
		p := anyPath(r, l)
		got, f := tree.Mkdir(l, p)
		if f != api.OK {
			continue
		}
		finds(t, got, dir(p))
		are(t, "made", tree.Under(got, p), dir(p))
		back, f := tree.Remove(got, p, false)
		made(t, "made, and removed", back, f, l...)
	}
}

// Split tells of each path what it is made of.
func TestP1306SplitAndJoin(t *testing.T) {
	r := rand.New(rand.NewSource(1306))
	for range 3000 {
		p := anyPath(r, anyTree(r, 20))
		d, name := tree.Split(p)
		if !wordsPath(p) {
			if d != "" || name != "" {
				t.Fatalf("%q: %q, %q", p, d, name)
			}
			continue
		}
		if strings.TrimPrefix(d+"/"+name, "/") != p || !tree.Part(name) || d != "" && !tree.Path(d) {
			t.Fatalf("%q: %q, %q", p, d, name)
		}
	}
}
