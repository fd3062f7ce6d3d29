package segment_test

import (
	"bytes"
	"encoding/binary"
	"hash/crc32"
	"math/big"
	"math/rand"
	"slices"
	"testing"

	"hayloft/api"
	"hayloft/segment"
	"hayloft/shelf"
)

// named: a name whose first bytes are n, the highest first: names rise with n.
func named(n int) (h api.Hash) {
	binary.BigEndian.PutUint32(h[:], uint32(n))
	h[31] = 7
	return h
}

// one: an entry of the name of n, at that place.
func one(n, pack, at, size int) segment.Entry {
	return segment.Entry{Name: named(n), W: shelf.Where{Pack: pack, At: at, Len: size}}
}

// rising: n right entries, of the names of 2, 4, 6 and so on.
func rising(n int) []segment.Entry {
	var l []segment.Entry
	for i := 1; i <= n; i++ {
		l = append(l, one(2*i, 1+i*1111%999999, i*13%12001, 1+i*7%12000))
	}
	return l
}

// form: a tag, how many bytes there are, and they.
func form(tag byte, in ...[]byte) []byte {
	b := bytes.Join(in, nil)
	return append([]byte{tag, byte(len(b) >> 8), byte(len(b))}, b...)
}

// num: a number's form, by its own bytes, the highest first.
func num(n int) []byte {
	return form(1, big.NewInt(int64(n)).Bytes())
}

// entryForm: the list of an entry's four values.
func entryForm(e segment.Entry) []byte {
	return form(3, form(2, e.Name[:]), num(e.W.Pack), num(e.W.At), num(e.W.Len))
}

// listForm: the list of all entries' lists, right or not.
func listForm(l ...segment.Entry) []byte {
	var in [][]byte
	for _, e := range l {
		in = append(in, entryForm(e))
	}
	return form(3, in...)
}

// sealed: b, and its sum in four bytes, the lowest first.
func sealed(b []byte) []byte {
	s := crc32.Checksum(b, crc32.MakeTable(crc32.Castagnoli))
	return binary.LittleEndian.AppendUint32(bytes.Clone(b), s)
}

// wordsRight: by the chapter's words.
func wordsRight(l []segment.Entry) bool {
	for i, e := range l {
		if e.W.Pack < 1 || 999999 < e.W.Pack || e.W.At < 0 || 12000 < e.W.At || e.W.Len < 1 || 12000 < e.W.Len {
			return false
		}
		if i > 0 && string(l[i-1].Name[:]) >= string(e.Name[:]) {
			return false
		}
	}
	return len(l) <= 900
}

// wordsSort: by the chapter's words: of each name the first one, and then by names.
func wordsSort(l []segment.Entry) []segment.Entry {
	first := map[string]segment.Entry{}
	var names []string
	for _, e := range l {
		n := string(e.Name[:])
		if _, ok := first[n]; !ok {
			first[n] = e
			names = append(names, n)
		}
	}
	slices.Sort(names)
	var out []segment.Entry
	for _, n := range names {
		out = append(out, first[n])
	}
	return out
}

// cut: what a form of that tag has in it, which b begins with, and what is behind.
func cut(tag byte, b []byte) (in, rest []byte, ok bool) {
	if len(b) < 3 || b[0] != tag {
		return nil, nil, false
	}
	end := 3 + int(b[1])*256 + int(b[2])
	if len(b) < end {
		return nil, nil, false
	}
	return b[3:end], b[end:], true
}

// cutNumber: the number, at most 2^31 - 1, whose form b begins with, and what is behind.
func cutNumber(b []byte) (int, []byte, bool) {
	in, rest, ok := cut(1, b)
	if !ok || len(in) > 0 && in[0] == 0 {
		return 0, nil, false
	}
	n := new(big.Int).SetBytes(in)
	return int(n.Int64()), rest, n.BitLen() <= 31
}

// cutEntry: the entry whose list b begins with, and what is behind.
func cutEntry(b []byte) (e segment.Entry, rest []byte, ok bool) {
	in, rest, ok := cut(3, b)
	if !ok {
		return e, nil, false
	}
	name, in, ok := cut(2, in)
	if !ok || len(name) != 32 {
		return e, nil, false
	}
	e.Name = api.Hash(name)
	for _, n := range []*int{&e.W.Pack, &e.W.At, &e.W.Len} {
		if *n, in, ok = cutNumber(in); !ok {
			return e, nil, false
		}
	}
	return e, rest, len(in) == 0
}

// wordsGet: Get by the chapter's words.
func wordsGet(b []byte) ([]segment.Entry, api.Fault) {
	if len(b) < 4 {
		return nil, api.Malformed
	}
	ahead := b[:len(b)-4]
	if !bytes.Equal(sealed(ahead), b) {
		return nil, api.Corrupt
	}
	in, rest, ok := cut(3, ahead)
	if !ok || len(rest) != 0 {
		return nil, api.Malformed
	}
	var l []segment.Entry
	for len(in) > 0 {
		var e segment.Entry
		if e, in, ok = cutEntry(in); !ok {
			return nil, api.Malformed
		}
		l = append(l, e)
	}
	if !wordsRight(l) {
		return nil, api.Malformed
	}
	return l, api.OK
}

// wordsFind: by the chapter's words, one behind the other.
func wordsFind(l []segment.Entry, h api.Hash) (shelf.Where, bool) {
	if wordsRight(l) {
		for _, e := range l {
			if e.Name == h {
				return e.W, true
			}
		}
	}
	return shelf.Where{}, false
}

// anyNumber: one within the range, at its edges, beside it, or far off.
func anyNumber(r *rand.Rand, least, most int) int {
	switch r.Intn(40) {
	case 0:
		return least - 1
	case 1:
		return most + 1
	case 2, 3:
		return least
	case 4, 5:
		return most
	}
	return least + r.Intn(most-least+1)
}

// anyEntries: at most so many, of few names, in any order, most of them at places that can be.
func anyEntries(r *rand.Rand, most, names int) []segment.Entry {
	l := make([]segment.Entry, r.Intn(most+1))
	for i := range l {
		l[i] = one(r.Intn(names), anyNumber(r, 1, 999999), anyNumber(r, 0, 12000), anyNumber(r, 1, 12000))
	}
	return l
}

// anyRight: at most so many right entries of any names.
func anyRight(r *rand.Rand, most int) []segment.Entry {
	l := make([]segment.Entry, r.Intn(most+1))
	for i := range l {
		r.Read(l[i].Name[:])
		l[i].W = shelf.Where{Pack: 1 + r.Intn(999999), At: r.Intn(12001), Len: 1 + r.Intn(12000)}
	}
	return wordsSort(l)
}

// are: the entries are just these; no entry may be nil or empty.
func are(t *testing.T, what string, got []segment.Entry, want ...segment.Entry) {
	t.Helper()
	if !slices.Equal(got, want) {
		t.Errorf("%s: %s, not %s", what, told(got), told(want))
	}
}

// told: the first bytes of names, and places, of the first entries.
func told(l []segment.Entry) string {
	var b []byte
	for i, e := range l {
		if i == 20 {
			b = append(b, ".. "...)
			break
		}
		b = big.NewInt(int64(binary.BigEndian.Uint32(e.Name[:]))).Append(b, 10)
		for _, n := range []int{e.W.Pack, e.W.At, e.W.Len} {
			b = big.NewInt(int64(n)).Append(append(b, ':'), 10)
		}
		b = append(b, ' ')
	}
	return string(b) + "(" + big.NewInt(int64(len(l))).String() + ")"
}
