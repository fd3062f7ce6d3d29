package node

import (
	"hayloft/api"
	"hayloft/store"
	"hayloft/tlv"
)

// fileFields: values of a file's list.
const fileFields = 2

// File: its chunks.
type File struct {
	Size   int
	Chunks []api.Hash
}

// PutFile: x as an object. BadArg: x is not right, or has more chunks than an object has room for.
func PutFile(x File) (store.Object, api.Fault) {
	if !x.right() {
		return store.Object{}, api.BadArg
	}
	return object(kindFile, x.value)
}

// GetFile: the file that o was put of. BadArg: o is of another kind; Malformed: its Body is
// no right file's. Making the value anew tells at once whether each part is of its sort, and
// has no more in it than a file keeps.
func GetFile(o store.Object) (File, api.Fault) {
	v, f := body(o, kindFile)
	if f != api.OK {
		return File{}, f
	}
	if len(v.List) != fileFields {
		return File{}, api.Malformed
	}
	x := file(v.List)
	if !x.right() || !tlv.Same(v, x.value()) {
		return File{}, api.Malformed
	}
	return x, api.OK
}

// right: whether x can be. A chunk has a byte at least, so there are no more of them than bytes.
func (x File) right() bool {
	if x.Size < 0 || x.Size > api.MaxFile {
		return false
	}
	return len(x.Chunks) >= min(x.Size, 1) && len(x.Chunks) <= x.Size
}

// value: what x, which is right, is in tlv's words.
func (x File) value() tlv.Value {
	chunks := tlv.Many()
	for _, h := range x.Chunks {
		chunks.List = append(chunks.List, tlv.Bytes(h[:]))
	}
	return tlv.Many(tlv.Number(uint64(x.Size)), chunks)
}

// file: what the fields tell, whatever is in them.
func file(l []tlv.Value) File {
	x := File{Size: int(l[0].N)}
	for _, v := range l[1].List {
		x.Chunks = append(x.Chunks, hash(v.B))
	}
	return x
}
