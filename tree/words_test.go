package tree_test

import (
	"maps"
	"math/rand"
	"slices"
	"strings"

	"hayloft/api"
	"hayloft/tree"
)

// wordsPart: by the chapter's words.
func wordsPart(s string) bool {
	const letters = "!\"#$%&'()*+,-.0123456789:;<=>?@ABCDEFGHIJKLMNOPQRSTUVWXYZ[\\]^_`abcdefghijklmnopqrstuvwxyz{|}~"
	return strings.Trim(s, letters) == "" && 1 <= len(s) && len(s) <= 20 && s != "." && s != ".."
}

// wordsPath: by the chapter's words.
func wordsPath(s string) bool {
	l := strings.Split(s, "/")
	for _, x := range l {
		if !wordsPart(x) {
			return false
		}
	}
	return len(l) <= 6
}

// above: a path without its last part.
func above(p string) string {
	l := strings.Split(p, "/")
	return strings.Join(l[:len(l)-1], "/")
}

// inside: whether q is within p, by the chapter's words.
func inside(q, p string) bool {
	return q == p || strings.HasPrefix(q, p+"/")
}

// shape: a tree's items by their paths, the root at "".
type shape map[string]api.Item

// shaped: the shape of a tree, of a path that comes twice the first item.
func shaped(l tree.Tree) shape {
	m := shape{}
	for _, x := range slices.Backward(l) {
		m[x.Path] = x
	}
	m[""] = api.Item{Dir: true}
	return m
}

// list: its items, by paths.
func (m shape) list() tree.Tree {
	var l tree.Tree
	for _, p := range slices.Sorted(maps.Keys(m)) {
		if p != "" {
			l = append(l, m[p])
		}
	}
	return l
}

// home: what keeps p's directory from holding it.
func (m shape) home(p string) api.Fault {
	x, ok := m[above(p)]
	switch {
	case !ok:
		return api.NotFound
	case !x.Dir:
		return api.NotDir
	}
	return api.OK
}

// has: whether there is an item of p.
func (m shape) has(p string) bool {
	_, ok := m[p]
	return ok
}

// wordsRight: by the chapter's words.
func wordsRight(l tree.Tree) bool {
	m := shaped(l)
	for i, x := range l {
		if !wordsPath(x.Path) || m.home(x.Path) != api.OK || i > 0 && l[i-1].Path >= x.Path {
			return false
		}
		if x.Dir && len(x.Data) != 0 || len(x.Data) > 2000 {
			return false
		}
	}
	return len(l) <= 60
}

// wordsFind: by the chapter's words, one behind the other.
func wordsFind(l tree.Tree, p string) (api.Item, bool) {
	for _, x := range l {
		if x.Path == p {
			return x, true
		}
	}
	return api.Item{}, false
}

// wordsUnder: by the chapter's words.
func wordsUnder(l tree.Tree, p string) tree.Tree {
	var out tree.Tree
	for _, x := range l {
		if p == "" || inside(x.Path, p) {
			out = append(out, x)
		}
	}
	return out
}

// wordsMake: Mkdir, or Write of data, by the chapter's words.
func wordsMake(l tree.Tree, p string, mkdir bool, data []byte) (tree.Tree, api.Fault) {
	m := shaped(l)
	switch {
	case !wordsRight(l):
		return nil, api.BadArg
	case !wordsPath(p):
		return nil, api.BadPath
	case m.home(p) != api.OK:
		return nil, m.home(p)
	case mkdir && m.has(p):
		return nil, api.Exists
	case !mkdir && m[p].Dir:
		return nil, api.IsDir
	case len(data) > 2000:
		return nil, api.TooLarge
	case len(l) == 60 && !m.has(p):
		return nil, api.TooLarge
	}
	m[p] = api.Item{Path: p, Dir: mkdir, Data: data}
	return m.list(), api.OK
}

// wordsRemove: by the chapter's words.
func wordsRemove(l tree.Tree, p string, deeply bool) (tree.Tree, api.Fault) {
	m := shaped(l)
	switch {
	case !wordsRight(l):
		return nil, api.BadArg
	case !wordsPath(p):
		return nil, api.BadPath
	case !m.has(p):
		return nil, api.NotFound
	case !deeply && len(wordsUnder(l, p)) > 1:
		return nil, api.NotEmpty
	}
	maps.DeleteFunc(m, func(q string, _ api.Item) bool { return inside(q, p) })
	return m.list(), api.OK
}

// wordsRename: by the chapter's words.
func wordsRename(l tree.Tree, from, to string) (tree.Tree, api.Fault) {
	m := shaped(l)
	switch {
	case !wordsRight(l):
		return nil, api.BadArg
	case !wordsPath(from) || !wordsPath(to):
		return nil, api.BadPath
	case !m.has(from):
		return nil, api.NotFound
	case m.home(to) != api.OK:
		return nil, m.home(to)
	case m.has(to) && to != from:
		return nil, api.Exists
	case inside(to, from) && to != from:
		return nil, api.BadArg
	}
	out := shape{}
	for q, x := range m {
		if inside(q, from) {
			q = strings.Replace(q, from, to, 1)
			if !wordsPath(q) {
				return nil, api.BadPath
			}
			x.Path = q
		}
		out[q] = x
	}
	return out.list(), api.OK
}

// pick: one of l.
func pick[T any](r *rand.Rand, l ...T) T {
	return l[r.Intn(len(l))]
}

// anyName: one of few, or one at an edge.
func anyName(r *rand.Rand) string {
	if r.Intn(12) == 0 {
		return pick(r, "...", "!", "~", strings.Repeat("n", 20), "..a", ".a")
	}
	return pick(r, "a", "b", "c", "a!", "a.", "aa", "a0", "b~", "0")
}

// anyTree: a right one, of at most so many items, and of at most 60.
func anyTree(r *rand.Rand, most int) tree.Tree {
	m, up := shape{}, []string{""}
	for range most {
		if len(m) == 60 {
			break
		}
		at := pick(r, up...)
		p := strings.TrimPrefix(at+"/"+anyName(r), "/")
		if m.has(p) || strings.Count(p, "/") > 5 {
			continue
		}
		x := file(p, strings.Repeat("x", r.Intn(3)))
		if r.Intn(2) == 0 {
			x = dir(p)
			up = append(up, p, p)
		}
		m[p] = x
	}
	return m.list()
}

// anyWrong: a tree with one thing done to it that can't be, most of the times.
func anyWrong(r *rand.Rand, most int) tree.Tree {
	l := anyTree(r, most)
	if len(l) == 0 {
		return l
	}
	i, k := r.Intn(len(l)), r.Intn(len(l))
	switch r.Intn(9) {
	case 0:
		l[i], l[k] = l[k], l[i]
	case 1:
		l = slices.Insert(l, i, l[i])
	case 2:
		l = slices.Delete(l, i, i+1)
	case 3:
		l[i].Dir = !l[i].Dir
	case 4:
		l[i].Data = make([]byte, 2001)
	case 5:
		l[i].Path += pick(r, "/", " ", "//a", "/..", "\x7f")
	case 6:
		l = append(l, file("z/z", ""))
	case 7:
		l = append(l, many(61-len(l))...)
	case 8:
		l = slices.Insert(l, i, l[k])
	}
	return l
}

// anyPath: one that is there, one near it, or any.
func anyPath(r *rand.Rand, l tree.Tree) string {
	p := ""
	if len(l) > 0 {
		p = l[r.Intn(len(l))].Path
	}
	switch r.Intn(16) {
	case 0, 1, 2, 3, 4, 5:
		return p
	case 6, 7, 8, 9:
		return strings.TrimPrefix(p+"/"+anyName(r), "/")
	case 10:
		return strings.TrimPrefix(above(p)+"/"+anyName(r), "/")
	case 11:
		return above(p)
	case 12:
		return p + "!"
	case 13:
		return p + pick(r, "/", " ", "/.", "/a/b", "/a/b", "/a/b", "//a", "/"+strings.Repeat("n", 21))
	}
	return anyName(r)
}
