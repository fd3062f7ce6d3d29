package tree

import (
	"slices"
	"strings"

	"hayloft/api"
)

// Mkdir: t with the directory p. Exists: something is there.
func Mkdir(t Tree, p string) (Tree, api.Fault) {
	if f := t.bars(p); f != api.OK {
		return nil, f
	}
	if t.has(p) {
		return nil, api.Exists
	}
	return t.with(api.Item{Path: p, Dir: true})
}

// Write: t with the file p, of just these bytes. IsDir: p is a directory; TooLarge: more than
// a file can have.
func Write(t Tree, p string, data []byte) (Tree, api.Fault) {
	if f := t.bars(p); f != api.OK {
		return nil, f
	}
	if i, ok := t.at(p); ok && t[i].Dir {
		return nil, api.IsDir
	}
	if len(data) > api.MaxFile {
		return nil, api.TooLarge
	}
	return t.with(api.Item{Path: p, Data: data})
}

// Remove: t without what is within p. NotEmpty: that is more than p, and deep does not ask for it.
func Remove(t Tree, p string, deep bool) (Tree, api.Fault) {
	if f := t.asked(p); f != api.OK {
		return nil, f
	}
	gone, left := t.apart(p)
	if len(gone) == 0 {
		return nil, api.NotFound
	}
	if len(gone) > 1 && !deep {
		return nil, api.NotEmpty
	}
	return left, api.OK
}

// Rename: t in which what was within from stands within to. BadPath: also, something of it would
// stand too deep there.
func Rename(t Tree, from, to string) (Tree, api.Fault) {
	if f := t.stays(from, to); f != api.OK {
		return nil, f
	}
	moved, out := t.apart(from)
	for _, x := range moved {
		x.Path = to + x.Path[len(from):]
		if !Path(x.Path) {
			return nil, api.BadPath
		}
		out = append(out, x)
	}
	slices.SortFunc(out, func(a, b api.Item) int { return strings.Compare(a.Path, b.Path) })
	return out, api.OK
}

// asked: BadArg: t is not right; BadPath: one of these is no path.
func (t Tree) asked(paths ...string) api.Fault {
	if !Right(t) {
		return api.BadArg
	}
	for _, p := range paths {
		if !Path(p) {
			return api.BadPath
		}
	}
	return api.OK
}

// bars: what keeps anything from standing at p.
func (t Tree) bars(p string) api.Fault {
	if f := t.asked(p); f != api.OK {
		return f
	}
	return t.home(p)
}

// stays: what keeps from, whatever is in it, from coming to stand at to. Exists: something else is
// there; BadArg: it would stand in itself.
func (t Tree) stays(from, to string) api.Fault {
	if f := t.asked(from, to); f != api.OK {
		return f
	}
	if !t.has(from) {
		return api.NotFound
	}
	if f := t.home(to); f != api.OK || from == to {
		return f
	}
	if t.has(to) {
		return api.Exists
	}
	if within(to, from) {
		return api.BadArg
	}
	return api.OK
}

// with: t with x, in the place of what had its path. TooLarge: nothing had, and t is full.
func (t Tree) with(x api.Item) (Tree, api.Fault) {
	out := Under(t, "")
	i, ok := out.at(x.Path)
	if ok {
		out[i] = clone(x)
		return out, api.OK
	}
	if len(out) == api.MaxItems {
		return nil, api.TooLarge
	}
	return slices.Insert(out, i, clone(x)), api.OK
}
