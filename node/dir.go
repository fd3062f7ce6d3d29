package node

import (
	"slices"
	"strings"

	"hayloft/api"
	"hayloft/store"
	"hayloft/tlv"
	"hayloft/tree"
)

// entryFields: values of an entry's list.
const entryFields = 3

// Entry: of a directory.
type Entry struct {
	Name string
	Dir  bool
	Hash api.Hash
}

// entries: of one directory.
type entries []Entry

// PutDir: the directory of these entries as an object. BadArg: they are not right.
func PutDir(l []Entry) (store.Object, api.Fault) {
	if !entries(l).right() {
		return store.Object{}, api.BadArg
	}
	return object(kindDir, entries(l).value)
}

// GetDir: the entries that o was put of. BadArg: o is of another kind; Malformed: its Body
// is no right entries'.
func GetDir(o store.Object) ([]Entry, api.Fault) {
	v, f := body(o, kindDir)
	if f != api.OK {
		return nil, f
	}
	l := make(entries, 0, len(v.List))
	for _, x := range v.List {
		if len(x.List) != entryFields {
			return nil, api.Malformed
		}
		l = append(l, entry(x.List))
	}
	if !l.right() || !tlv.Same(v, l.value()) {
		return nil, api.Malformed
	}
	return l, api.OK
}

// Find: the entry of that name; false: there is none, or l is not right.
func Find(l []Entry, name string) (Entry, bool) {
	if !entries(l).right() {
		return Entry{}, false
	}
	i, ok := slices.BinarySearchFunc(l, name, Entry.against)
	if !ok {
		return Entry{}, false
	}
	return l[i], true
}

// Sort: l by names, of each name the first one in l.
func Sort(l []Entry) []Entry {
	out := append([]Entry(nil), l...)
	slices.SortStableFunc(out, Entry.compare) // stable: it is by the order in l which one is the first
	return slices.CompactFunc(out, Entry.namesake)
}

// right: whether l can be put: not too many, names that are parts, and that strictly rise.
func (l entries) right() bool {
	if len(l) > api.MaxItems {
		return false
	}
	for i, e := range l {
		if !tree.Part(e.Name) || i > 0 && l[i-1].compare(e) >= 0 {
			return false
		}
	}
	return true
}

// value: what l, which is right, is in tlv's words.
func (l entries) value() tlv.Value {
	v := tlv.Many()
	for _, e := range l {
		v.List = append(v.List, e.value())
	}
	return v
}

func (l entries) hashes() []api.Hash {
	var out []api.Hash
	for _, e := range l {
		out = append(out, e.Hash)
	}
	return out
}

func (e Entry) value() tlv.Value {
	n := uint64(0)
	if e.Dir {
		n = 1
	}
	return tlv.Many(tlv.Bytes([]byte(e.Name)), tlv.Number(n), tlv.Bytes(e.Hash[:]))
}

// entry: what the fields tell, whatever is in them.
func entry(l []tlv.Value) Entry {
	return Entry{Name: string(l[0].B), Dir: l[1].N == 1, Hash: hash(l[2].B)}
}

// against: how e's name stands to that one, byte by byte.
func (e Entry) against(name string) int {
	return strings.Compare(e.Name, name)
}

// compare: by names alone.
func (e Entry) compare(o Entry) int {
	return e.against(o.Name)
}

func (e Entry) namesake(o Entry) bool {
	return e.Name == o.Name
}
