package frame_test

import (
	"bytes"
	"hash/crc32"
	"math/rand"

	"hayloft/api"
	"hayloft/frame"
)

// part: a value as this test reads and writes it, by the words of the chapters alone.
type part struct {
	tag  byte
	body []byte // of a number and of bytes
	list []part
}

func number(b ...byte) part { return part{tag: 1, body: b} }
func text(b []byte) part    { return part{tag: 2, body: b} }
func many(l ...part) part   { return part{tag: 3, list: l} }

// form: p's, whatever is in it.
func (p part) form() []byte {
	in := bytes.Clone(p.body)
	for _, q := range p.list {
		in = append(in, q.form()...)
	}
	return append([]byte{p.tag, byte(len(in) >> 8), byte(len(in))}, in...)
}

// sealed: b, and its sum in four bytes, the lowest first.
func sealed(b []byte) []byte {
	s := crc32.Checksum(b, crc32.MakeTable(crc32.Castagnoli))
	return append(bytes.Clone(b), byte(s), byte(s>>8), byte(s>>16), byte(s>>24))
}

// partsOf: a record's list of three values.
func partsOf(r frame.Record) part {
	return many(number(byte(r.Kind)), text(r.Name[:]), text(r.Body))
}

// wordsFrame: a right record's frame by the chapter's words.
func wordsFrame(r frame.Record) []byte { return sealed(partsOf(r).form()) }

// readPart: the part whose form b begins with, and what is behind; lists at most deep deep.
func readPart(b []byte, deep int) (p part, rest []byte, ok bool) {
	if len(b) < 3 || len(b)-3 < int(b[1])*256+int(b[2]) {
		return part{}, nil, false
	}
	end := 3 + int(b[1])*256 + int(b[2])
	in, rest := b[3:end], b[end:]
	switch b[0] {
	case 1:
		return number(in...), rest, len(in) <= 8 && (len(in) == 0 || in[0] != 0)
	case 2:
		return text(in), rest, true
	case 3:
		p = many()
		for len(in) > 0 {
			q, behind, ok := readPart(in, deep-1)
			if !ok {
				return part{}, nil, false
			}
			p.list, in = append(p.list, q), behind
		}
		return p, rest, deep > 0
	}
	return part{}, nil, false
}

// wordsRecord: the right record whose list of three values p is.
func wordsRecord(p part) (frame.Record, bool) {
	if p.tag != 3 || len(p.list) != 3 {
		return frame.Record{}, false
	}
	k, n, b := p.list[0], p.list[1], p.list[2]
	if k.tag != 1 || n.tag != 2 || b.tag != 2 || len(n.body) != 32 || len(b.body) > 5000 {
		return frame.Record{}, false
	}
	if len(k.body) != 1 || k.body[0] < 1 || k.body[0] > 9 {
		return frame.Record{}, false
	}
	return frame.Record{Kind: int(k.body[0]), Name: api.Hash(n.body), Body: bytes.Clone(b.body)}, true
}

// wordsTake: Take by the chapter's words.
func wordsTake(b []byte) (frame.Record, int, api.Fault) {
	p, rest, ok := readPart(b, 8)
	if !ok || len(rest) < 4 {
		return frame.Record{}, 0, api.Early
	}
	n := len(b) - len(rest) + 4
	if !bytes.Equal(sealed(b[:n-4]), b[:n]) {
		return frame.Record{}, 0, api.Corrupt
	}
	r, ok := wordsRecord(p)
	if !ok {
		return frame.Record{}, 0, api.Malformed
	}
	return r, n, api.OK
}

// wordsScan: Scan by the chapter's words.
func wordsScan(b []byte) (l []frame.Placed, good int, f api.Fault) {
	for good < len(b) {
		r, n, f := wordsTake(b[good:])
		if f != api.OK {
			return l, good, f
		}
		l = append(l, frame.Placed{At: good, Len: n, R: r})
		good += n
	}
	return l, good, api.OK
}

// alike: both records, by this test's own eyes.
func alike(a, b frame.Record) bool {
	return a.Kind == b.Kind && string(a.Name[:]) == string(b.Name[:]) && string(a.Body) == string(b.Body)
}

func placedAlike(a, b []frame.Placed) bool {
	if len(a) != len(b) {
		return false
	}
	for i := range a {
		if a[i].At != b[i].At || a[i].Len != b[i].Len || !alike(a[i].R, b[i].R) {
			return false
		}
	}
	return true
}

// isZero: the zero record, whose list is nil.
func isZero(r frame.Record) bool {
	return r.Kind == 0 && r.Name == api.Hash{} && r.Body == nil
}

// hash: 32 bytes that differ from each other.
func hash(first byte) (h api.Hash) {
	for i := range h {
		h[i] = first + byte(i)*7
	}
	return h
}

// anyRecord: some right record, its Body most often short.
func anyRecord(r *rand.Rand) frame.Record {
	x := frame.Record{Kind: 1 + r.Intn(9), Body: make([]byte, r.Intn(20))}
	if r.Intn(20) == 0 {
		x.Body = make([]byte, r.Intn(api.MaxObject+1))
	}
	r.Read(x.Name[:])
	r.Read(x.Body)
	return x
}

// laid: lists one behind the other.
func laid(l ...[]byte) []byte { return bytes.Join(l, nil) }
