// Package tlv is layer 1: values as bytes, each with its tag and its length. See shared/doc/01-tlv.md.
package tlv

import (
	"bytes"
	"math/bits"

	"hayloft/api"
)

// Value: a number, bytes, or a list.
type Value struct {
	Tag  int
	N    uint64
	B    []byte
	List []Value
}

const (
	tagNumber = iota + 1
	tagBytes
	tagList
)

const (
	headSize = 3     // a byte for the tag, two for the length
	maxBody  = 65535 // the most that two bytes of length can tell
	maxDeep  = 8     // lists within lists

	// The document speaks of what is nested 2^16 deep at most. Twice that is where
	// the calls that take any value, right or not, leave one that holds itself.
	maxNested = 1 << 17
)

// Right: whether v has a form.
func Right(v Value) bool {
	_, ok := bodySize(v, maxBody, maxDeep)
	return ok
}

// Size: how many bytes v's form has; 0: v is not right.
func Size(v Value) int {
	n, ok := bodySize(v, maxBody, maxDeep)
	if !ok {
		return 0
	}
	return headSize + n
}

// Put: v's form. BadArg: v is not right.
func Put(v Value) ([]byte, api.Fault) {
	n := Size(v)
	if n == 0 {
		return nil, api.BadArg
	}
	w := writer{b: make([]byte, 0, n)}
	w.put(v)
	return w.b, api.OK
}

// Take: the value whose form b begins with, and what is behind it. Malformed: there is none.
func Take(b []byte) (v Value, rest []byte, f api.Fault) {
	v, n, ok := read(b, maxDeep)
	if !ok {
		return Value{}, nil, api.Malformed
	}
	return v, bytes.Clone(b[n:]), api.OK
}

// Get: the value whose form b is. Malformed: there is none.
func Get(b []byte) (Value, api.Fault) {
	v, n, ok := read(b, maxDeep)
	if !ok || n != len(b) {
		return Value{}, api.Malformed
	}
	return v, api.OK
}

// Same: whether a and b are alike in all, right or not.
func Same(a, b Value) bool {
	return same(a, b, maxNested)
}

// Number: the value of a number.
func Number(n uint64) Value {
	return Value{Tag: tagNumber, N: n}
}

// Bytes: the value of bytes.
func Bytes(b []byte) Value {
	return Value{Tag: tagBytes, B: bytes.Clone(b)}
}

// Many: the value of a list.
func Many(l ...Value) Value {
	v, _ := clone(Value{Tag: tagList, List: l}, maxNested)
	return v
}

// bodySize: how many bytes are behind the first three of v's form; false: v is not right.
// The room and the depth that are left are handed down, and each value takes some of that
// room: so a value that holds itself, or one list many times over, is soon given up.
func bodySize(v Value, room, deep int) (int, bool) {
	if room < 0 || !othersEmpty(v) {
		return 0, false
	}
	n := 0
	switch v.Tag {
	case tagNumber:
		n = numberSize(v.N)
	case tagBytes:
		n = len(v.B)
	case tagList:
		return listSize(v.List, room, deep)
	default:
		return 0, false
	}
	return n, n <= room
}

func listSize(l []Value, room, deep int) (int, bool) {
	if deep == 0 {
		return 0, false
	}
	n := 0
	for _, v := range l {
		body, ok := bodySize(v, room-n-headSize, deep-1)
		if !ok {
			return 0, false
		}
		n += headSize + body
	}
	return n, true
}

func othersEmpty(v Value) bool {
	return (v.Tag == tagNumber || v.N == 0) &&
		(v.Tag == tagBytes || len(v.B) == 0) &&
		(v.Tag == tagList || len(v.List) == 0)
}

func numberSize(n uint64) int {
	return (bits.Len64(n) + 7) / 8
}

func same(a, b Value, deep int) bool {
	if deep == 0 || a.Tag != b.Tag || a.N != b.N || !bytes.Equal(a.B, b.B) || len(a.List) != len(b.List) {
		return false
	}
	for i, v := range a.List {
		if !same(v, b.List[i], deep-1) {
			return false
		}
	}
	return true
}

// clone: v in memory of its own; false: v is nested too deep, and the copy ends there.
func clone(v Value, deep int) (Value, bool) {
	if deep == 0 {
		return Value{}, false
	}
	c := Value{Tag: v.Tag, N: v.N, B: bytes.Clone(v.B)}
	for _, x := range v.List {
		y, ok := clone(x, deep-1)
		c.List = append(c.List, y)
		if !ok {
			return c, false
		}
	}
	return c, true
}
