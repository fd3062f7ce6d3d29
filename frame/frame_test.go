package frame_test

import (
	"bytes"
	"math"
	"math/rand"
	"testing"

	"hayloft/api"
	"hayloft/crc"
	"hayloft/frame"
)

// rightOnes: right records at the edges, and others.
func rightOnes() []frame.Record {
	l := []frame.Record{
		{Kind: 1},
		{Kind: 9},
		{Kind: 1, Body: []byte{}},
		{Kind: 5, Name: hash(1), Body: []byte("hay")},
		{Kind: 1, Name: hash(200), Body: make([]byte, api.MaxObject)},
		{Kind: 9, Body: bytes.Repeat([]byte{0xFF}, api.MaxObject-1)},
		{Kind: 2, Body: make([]byte, 255)},
		{Kind: 3, Body: make([]byte, 256)},
	}
	r := rand.New(rand.NewSource(7))
	for len(l) < 100 {
		l = append(l, anyRecord(r))
	}
	return l
}

// wrongOnes: records that are not right, by Kind, by Body, and by both.
func wrongOnes() []frame.Record {
	long := make([]byte, api.MaxObject+1)
	return []frame.Record{
		{},
		{Kind: 0, Name: hash(1), Body: []byte("x")},
		{Kind: 10, Body: []byte("x")},
		{Kind: 11},
		{Kind: -1},
		{Kind: -9, Name: hash(3)},
		{Kind: 257},
		{Kind: 1<<32 + 1},
		{Kind: math.MaxInt},
		{Kind: math.MinInt},
		{Kind: math.MinInt + 1},
		{Kind: 1, Body: long},
		{Kind: 9, Name: hash(2), Body: long},
		{Kind: 1, Body: make([]byte, 70000)},
		{Kind: 10, Body: long},
		{Kind: 0, Body: long},
	}
}

func TestP701Right(t *testing.T) {
	for k := 1; k <= 9; k++ {
		if !frame.Right(frame.Record{Kind: k}) {
			t.Errorf("Kind %d is not right", k)
		}
	}
	for _, r := range rightOnes() {
		if !frame.Right(r) {
			t.Errorf("Kind %d, %d bytes: not right", r.Kind, len(r.Body))
		}
	}
	for _, r := range wrongOnes() {
		if frame.Right(r) {
			t.Errorf("Kind %d, %d bytes: right", r.Kind, len(r.Body))
		}
	}
}

func TestP701SizeAndPut(t *testing.T) {
	c := crc.New()
	for _, r := range rightOnes() {
		want := wordsFrame(r)
		got, f := frame.Put(c, r)
		if f != api.OK || !bytes.Equal(got, want) {
			t.Errorf("Kind %d, %d bytes: Put: % x, fault %d", r.Kind, len(r.Body), got, f)
		}
		if n := frame.Size(r); n != len(want) || n != 49+len(r.Body) {
			t.Errorf("Kind %d, %d bytes: Size %d, not %d", r.Kind, len(r.Body), n, len(want))
		}
	}
}

func TestP701PutByteForByte(t *testing.T) {
	want := laid([]byte{3, 0, 0x2C, 1, 0, 1, 7, 2, 0, 32}, bytes.Repeat([]byte{0xAB}, 32), []byte{2, 0, 2, 'h', 'i'})
	r := frame.Record{Kind: 7, Name: api.Hash(bytes.Repeat([]byte{0xAB}, 32)), Body: []byte("hi")}
	got, f := frame.Put(crc.New(), r)
	if f != api.OK || len(got) != 51 || !bytes.Equal(got[:47], want) || !bytes.Equal(got, sealed(want)) {
		t.Errorf("% x, fault %d", got, f)
	}
}

func TestP701SizeAndPutOfWrongRecords(t *testing.T) {
	c := crc.New()
	for _, r := range wrongOnes() {
		if n := frame.Size(r); n != 0 {
			t.Errorf("Kind %d, %d bytes: Size %d", r.Kind, len(r.Body), n)
		}
		if b, f := frame.Put(c, r); f != api.BadArg || b != nil {
			t.Errorf("Kind %d, %d bytes: Put: %d bytes, fault %d", r.Kind, len(r.Body), len(b), f)
		}
	}
}

func TestP701NilTableIsAheadOfAll(t *testing.T) {
	for _, r := range append(rightOnes()[:3], wrongOnes()...) {
		if b, f := frame.Put(nil, r); f != api.Nil || b != nil {
			t.Errorf("Kind %d: Put: %d bytes, fault %d", r.Kind, len(b), f)
		}
	}
}

func TestP701AZeroTableIsATable(t *testing.T) {
	r := rightOnes()[3]
	b, f := frame.Put(new(crc.Table), r)
	if f != api.OK || !bytes.Equal(b, wordsFrame(r)) {
		t.Errorf("Put: % x, fault %d", b, f)
	}
	if got, n, f := frame.Take(new(crc.Table), b); f != api.OK || n != len(b) || !alike(got, r) {
		t.Errorf("Take: %v, %d, fault %d", got, n, f)
	}
}

func TestP701Same(t *testing.T) {
	a := frame.Record{Kind: 4, Name: hash(9), Body: []byte("hay in a loft")}
	b := a
	b.Body = bytes.Clone(a.Body)
	if !frame.Same(a, b) || !frame.Same(a, a) {
		t.Error("a record is not the same as its copy")
	}
	differ := func(what string, c frame.Record) {
		t.Helper()
		if frame.Same(a, c) || frame.Same(c, a) {
			t.Errorf("the same, with another %s", what)
		}
	}
	for _, k := range []int{3, 5, 0, -4, 260} {
		c := a
		c.Kind = k
		differ("Kind", c)
	}
	for i := range a.Name {
		c := a
		c.Name[i] ^= 1 << (i % 8)
		differ("Name", c)
	}
	for i := range a.Body {
		c := a
		c.Body = bytes.Clone(a.Body)
		c.Body[i] ^= 0x80
		differ("Body", c)
		c.Body = a.Body[:i]
		differ("Body", c)
	}
	c := a
	c.Body = append(bytes.Clone(a.Body), 0)
	differ("Body", c)
}

func TestP701SameOfNoBodyAndOfWrongRecords(t *testing.T) {
	if !frame.Same(frame.Record{Kind: 1}, frame.Record{Kind: 1, Body: []byte{}}) ||
		!frame.Same(frame.Record{Kind: 1, Body: []byte{}}, frame.Record{Kind: 1}) {
		t.Error("a nil Body and an empty one are not the same")
	}
	if frame.Same(frame.Record{Kind: 1}, frame.Record{Kind: 1, Body: []byte{0}}) {
		t.Error("no Body is the same as one of a byte 0")
	}
	l := wrongOnes()
	for i := range l {
		for k := range l {
			if got := frame.Same(l[i], l[k]); got != alike(l[i], l[k]) {
				t.Errorf("wrong records %d and %d: %v", i, k, got)
			}
		}
	}
}

// takesAs holds Take of b against the chapter's words, and answers its fault.
func takesAs(t *testing.T, what string, b []byte) api.Fault {
	t.Helper()
	want, wantN, wantF := wordsTake(b)
	r, n, f := frame.Take(crc.New(), b)
	if f != wantF || n != wantN || !alike(r, want) {
		t.Errorf("%s: Take: Kind %d, %d bytes, %d, fault %d; not Kind %d, %d bytes, %d, fault %d",
			what, r.Kind, len(r.Body), n, f, want.Kind, len(want.Body), wantN, wantF)
	}
	if f != api.OK && (!isZero(r) || n != 0) {
		t.Errorf("%s: fault %d with %v, %d", what, f, r, n)
	}
	return f
}

// takesWith asks for one fault by its name, beside what the words' own Take tells.
func takesWith(t *testing.T, what string, b []byte, want api.Fault) {
	t.Helper()
	if f := takesAs(t, what, b); f != want {
		t.Errorf("%s: fault %d, not %d", what, f, want)
	}
}

func TestP702TakeOfNoByte(t *testing.T) {
	takesWith(t, "nil", nil, api.Early)
	takesWith(t, "empty", []byte{}, api.Early)
}

func TestP702TakeOfFrames(t *testing.T) {
	c := crc.New()
	for _, r := range rightOnes() {
		b := wordsFrame(r)
		for _, tail := range [][]byte{nil, {0}, {9}, {3, 0}, b, make([]byte, 70000)} {
			got, n, f := frame.Take(c, laid(b, tail))
			if f != api.OK || n != len(b) || !alike(got, r) {
				t.Errorf("Kind %d, %d bytes, %d behind: %d, fault %d", r.Kind, len(r.Body), len(tail), n, f)
			}
		}
	}
}

func TestP702TakeOfCutFrames(t *testing.T) {
	for _, r := range rightOnes()[:12] {
		b := wordsFrame(r)
		for n := range b {
			if len(b) > 500 && n > 100 && n < len(b)-100 {
				continue
			}
			takesWith(t, "cut", b[:n], api.Early)
			takesWith(t, "cut, with room behind", append(make([]byte, 0, 6000), b[:n]...), api.Early)
		}
		takesWith(t, "whole", b, api.OK)
	}
}

// otherSorts: forms of right values that are no right record's.
func otherSorts() map[string]part {
	name, body, kind := text(make([]byte, 32)), text([]byte("x")), number(1)
	list32 := many()
	for range 32 {
		list32.list = append(list32.list, number())
	}
	return map[string]part{
		"number":             number(1),
		"bytes":              text([]byte("x")),
		"bytes of a list":    text(laid(kind.form(), name.form(), body.form())),
		"no value":           many(),
		"one value":          many(kind),
		"two values":         many(kind, name),
		"four values":        many(kind, name, body, text(nil)),
		"the list in a list": many(many(kind, name, body)),
		"Kind 0":             many(number(), name, body),
		"Kind 10":            many(number(10), name, body),
		"Kind 255":           many(number(255), name, body),
		"Kind 257":           many(number(1, 1), name, body),
		"Kind 2^32 + 1":      many(number(1, 0, 0, 0, 1), name, body),
		"Kind 2^63 + 1":      many(number(0x80, 0, 0, 0, 0, 0, 0, 1), name, body),
		"Kind 2^64 - 1":      many(number(255, 255, 255, 255, 255, 255, 255, 255), name, body),
		"Kind of bytes":      many(text([]byte{1}), name, body),
		"Kind a list":        many(many(number(1)), name, body),
		"Kind an empty list": many(many(), name, body),
		"Name of no byte":    many(kind, text(nil), body),
		"Name of 31":         many(kind, text(make([]byte, 31)), body),
		"Name of 33":         many(kind, text(make([]byte, 33)), body),
		"Name of 64":         many(kind, text(make([]byte, 64)), body),
		"Name a number":      many(kind, number(1), body),
		"Name the number 0":  many(kind, number(), body),
		"Name a list":        many(kind, list32, body),
		"Name an empty list": many(kind, many(), body),
		"Body a number":      many(kind, name, number(7)),
		"Body the number 0":  many(kind, name, number()),
		"Body a list":        many(kind, name, many(body)),
		"Body an empty list": many(kind, name, many()),
		"Body of 5001":       many(kind, name, text(make([]byte, api.MaxObject+1))),
		"Body of 60000":      many(kind, name, text(make([]byte, 60000))),
		"another order":      many(name, kind, body),
		"Body ahead":         many(kind, body, name),
		"the longest bytes":  text(make([]byte, 65535)),
	}
}

func TestP702TakeOfOtherSorts(t *testing.T) {
	for what, p := range otherSorts() {
		b := sealed(p.form())
		takesWith(t, what, b, api.Malformed)
		takesWith(t, what+", bytes behind", laid(b, []byte("behind")), api.Malformed)
		takesWith(t, what+", cut", b[:len(b)-1], api.Early)
		takesWith(t, what+", cut to its form", b[:len(b)-4], api.Early)
		b[len(b)-1] ^= 1
		takesWith(t, what+", turned", b, api.Corrupt)
	}
}

func TestP702TakeOfTheGreatestBody(t *testing.T) {
	name := text(make([]byte, 32))
	takesWith(t, "5000 bytes", sealed(many(number(9), name, text(make([]byte, 5000))).form()), api.OK)
	takesWith(t, "5001 bytes", sealed(many(number(9), name, text(make([]byte, 5001))).form()), api.Malformed)
}

// A form that is none of tlv's is Early, be it sealed or not: tlv tells no whole one.
func TestP702TakeOfNoForms(t *testing.T) {
	name, body := text(make([]byte, 32)), text([]byte("x"))
	deep := many()
	for range 8 {
		deep = many(deep)
	}
	for what, p := range map[string]part{
		"tag 0":                 {tag: 0},
		"tag 4":                 {tag: 4, body: []byte("x")},
		"a value of tag 0":      many(part{tag: 0, body: []byte{1}}, name, body),
		"a value of tag 9":      many(number(1), part{tag: 9, body: make([]byte, 32)}, body),
		"a 0 ahead":             many(number(0, 1), name, body),
		"a number of a 0":       many(number(0), name, body),
		"a number of nine":      many(number(1, 2, 3, 4, 5, 6, 7, 8, 9), name, body),
		"lists nested nine":     deep,
		"a value that is cut":   {tag: 3, body: []byte{1, 0, 2, 1}},
		"a byte that is left":   {tag: 3, body: append(many(number(1), name, body).form()[3:], 2)},
		"a length one too long": {tag: 3, body: []byte{2, 0, 1}},
	} {
		b := sealed(p.form())
		takesWith(t, what, b, api.Early)
		takesWith(t, what+", bytes behind", laid(b, wordsFrame(frame.Record{Kind: 1})), api.Early)
		b[len(b)-2] ^= 1
		takesWith(t, what+", turned", b, api.Early)
	}
}

func TestP702TakeOfAnotherSum(t *testing.T) {
	b := wordsFrame(rightOnes()[3])
	for i := len(b) - 4; i < len(b); i++ {
		for bit := range 8 {
			x := bytes.Clone(b)
			x[i] ^= 1 << bit
			takesWith(t, "a sum with a bit turned", x, api.Corrupt)
		}
	}
	x := bytes.Clone(b)
	copy(x[len(x)-4:], []byte{x[len(x)-1], x[len(x)-2], x[len(x)-3], x[len(x)-4]})
	takesWith(t, "a sum the highest first", x, api.Corrupt)
	x = laid(b[:len(b)-4], make([]byte, 4))
	takesWith(t, "no sum", x, api.Corrupt)
}

func TestP702TakeOfTurnedHeads(t *testing.T) {
	for _, r := range rightOnes()[:12] {
		b := laid(wordsFrame(r), wordsFrame(frame.Record{Kind: 2, Name: hash(4)}))
		for i := range 3 {
			for bit := range 8 {
				x := bytes.Clone(b)
				x[i] ^= 1 << bit
				takesAs(t, "a head with a bit turned", x)
			}
		}
	}
}

func TestP702TakeOfAnyBytes(t *testing.T) {
	r := rand.New(rand.NewSource(702))
	for range 20000 {
		b := make([]byte, r.Intn(40))
		for i := range b {
			b[i] = byte(r.Intn(5))
		}
		takesAs(t, "any bytes", b)
		takesAs(t, "any bytes, sealed", sealed(b))
	}
}

func TestP702TakeOfANilTable(t *testing.T) {
	for _, b := range [][]byte{nil, {9}, wordsFrame(frame.Record{Kind: 1}), sealed(number(1).form())} {
		if r, n, f := frame.Take(nil, b); f != api.Nil || n != 0 || !isZero(r) {
			t.Errorf("of %d bytes: %v, %d, fault %d", len(b), r, n, f)
		}
	}
}
