package node_test

import (
	"fmt"
	"slices"
	"testing"

	"hayloft/api"
	"hayloft/node"
)

// finds: just that entry.
func finds(t *testing.T, what string, l []node.Entry, want node.Entry) {
	t.Helper()
	if e, ok := node.Find(l, want.Name); !ok || e != want {
		t.Errorf("%s: of %q: %s, %v", what, want.Name, told([]node.Entry{e}), ok)
	}
}

// findsNone: false, and nothing beside it.
func findsNone(t *testing.T, what string, l []node.Entry, name string) {
	t.Helper()
	if e, ok := node.Find(l, name); ok || e != (node.Entry{}) {
		t.Errorf("%s: of %q: %s, %v", what, name, told([]node.Entry{e}), ok)
	}
}

func TestP1404Find(t *testing.T) {
	for what, l := range rightDirs() {
		for _, e := range l {
			finds(t, what, l, e)
		}
		for _, name := range append(wrongNames(), "none", "a0", "\"x", "}}", "n", "zz") {
			if _, is := wordsFind(l, name); !is {
				findsNone(t, what, l, name)
			}
		}
	}
	for n := range 61 {
		for _, e := range many(n) {
			finds(t, fmt.Sprint(n), many(n), e)
		}
	}
}

// Ahead of the first, behind the last and between: the beginning of a name, and what goes on.
func TestP1404FindOfWhatIsNotThere(t *testing.T) {
	l := []node.Entry{isFile("ab", 1), isDir("cd", 2), isFile("ef", 3)}
	for _, name := range []string{"", "a", "aa", "ab!", "abc", "ac", "c", "cc", "cd!", "cda", "ce", "e", "ef!", "efg", "f", "AB", "b", "d", "ab\x00", "ab/", "cd/a"} {
		findsNone(t, "three", l, name)
	}
	findsNone(t, "nil", nil, "a")
	findsNone(t, "none", []node.Entry{}, "a")
	findsNone(t, "none, of no name", nil, "")
	findsNone(t, "spare room alone", l[:0], "ab")
	findsNone(t, "behind the last one", l[:2], "ef")
}

func TestP1404FindInWrongEntries(t *testing.T) {
	for what, l := range wrongDirs() {
		for _, e := range l[:min(len(l), 70)] {
			findsNone(t, what, l, e.Name)
		}
		findsNone(t, what, l, "x")
		findsNone(t, what, l, "")
	}
}

func TestP1404SortOfFew(t *testing.T) {
	a, b, c := isFile("a", 3), isDir("b", 2), isFile("c", 1)
	are(t, "nil", node.Sort(nil))
	are(t, "none", node.Sort([]node.Entry{}))
	are(t, "one", node.Sort([]node.Entry{b}), b)
	are(t, "in order", node.Sort([]node.Entry{a, b, c}), a, b, c)
	are(t, "the other way around", node.Sort([]node.Entry{c, b, a}), a, b, c)
	are(t, "the last one first", node.Sort([]node.Entry{c, a, b}), a, b, c)
	are(t, "two", node.Sort([]node.Entry{b, a}), a, b)
	are(t, "the zero entry", node.Sort([]node.Entry{a, {}, b}), node.Entry{}, a, b)
}

// Of a name that stands several times the first one stays, whatever else it has.
func TestP1404SortOfNamesThatStandTwice(t *testing.T) {
	a, d, h, g := isFile("a", 5), isDir("a", 5), isFile("a", 4), isFile("a", 6)
	b := isFile("b", 5)
	for _, x := range []node.Entry{a, d, h, g} {
		for _, y := range []node.Entry{a, d, h, g} {
			are(t, "twice", node.Sort([]node.Entry{x, y}), x)
			are(t, "between others", node.Sort([]node.Entry{b, x, b, y, isFile("A", 1)}), isFile("A", 1), x, b)
			for _, z := range []node.Entry{a, d, h, g} {
				are(t, "three times", node.Sort([]node.Entry{x, y, z}), x)
				are(t, "three times, others between", node.Sort([]node.Entry{b, x, isDir("b", 5), y, b, z}), x, b)
			}
		}
	}
	are(t, "alike", node.Sort([]node.Entry{a, a, a}), a)
	var many []node.Entry
	for i := range 3000 {
		many = append(many, node.Entry{Name: string(rune('a' + i%7)), Dir: i%2 == 0, Hash: named(3000 - i)})
	}
	are(t, "seven names", node.Sort(many), many[:7]...)
}

// Neither more than 60 nor names that are no parts are refused.
func TestP1404SortOfWhatIsNotRight(t *testing.T) {
	l := many(500)
	back := slices.Clone(l)
	slices.Reverse(back)
	are(t, "500, in order", node.Sort(l), l...)
	are(t, "500, falling", node.Sort(back), l...)
	are(t, "500 twice", node.Sort(slices.Concat(back, l)), l...)
	var names []node.Entry
	for i, n := range wrongNames() {
		names = append(names, isFile(n, i))
	}
	are(t, "no parts", node.Sort(names), wordsSort(names)...)
	are(t, "bytes, not runes or lengths", node.Sort([]node.Entry{
		isFile("\xff", 1), isFile("é", 2), isFile("日", 3), isFile("z", 4), isFile("aa", 5), isFile("b", 6), isFile("a", 7), isFile("B", 8), isFile("", 9), isFile("\x00", 10), isFile("a\x00", 11),
	}), isFile("", 9), isFile("\x00", 10), isFile("B", 8), isFile("a", 7), isFile("a\x00", 11), isFile("aa", 5), isFile("b", 6), isFile("z", 4), isFile("é", 2), isFile("日", 3), isFile("\xff", 1))
	for what, l := range wrongDirs() {
		are(t, what, node.Sort(l), wordsSort(l)...)
	}
}

// By names alone: neither what is a directory nor the hash counts.
func TestP1404SortByNamesAlone(t *testing.T) {
	are(t, "by names", node.Sort([]node.Entry{
		{Name: "c", Hash: api.Hash{1}}, {Name: "b", Dir: true, Hash: api.Hash{2}}, {Name: "a", Hash: api.Hash{3}}, {Name: "d", Dir: true},
	}), node.Entry{Name: "a", Hash: api.Hash{3}}, node.Entry{Name: "b", Dir: true, Hash: api.Hash{2}}, node.Entry{Name: "c", Hash: api.Hash{1}}, node.Entry{Name: "d", Dir: true})
}
