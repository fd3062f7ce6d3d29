package segment_test

import (
	"bytes"
	"math/rand"
	"testing"

	"hayloft/api"
	"hayloft/crc"
	"hayloft/segment"
	"hayloft/shelf"
)

// getsAs holds Get of b against the chapter's words, and answers its fault.
func getsAs(t *testing.T, what string, b []byte) api.Fault {
	t.Helper()
	want, wantF := wordsGet(b)
	l, f := segment.Get(crc.New(), b)
	if f != wantF {
		t.Errorf("%s: fault %d, not %d", what, f, wantF)
	}
	are(t, what, l, want...)
	if f != api.OK && l != nil {
		t.Errorf("%s: a list beside fault %d", what, f)
	}
	return f
}

// getsWith asks for one fault by its name, beside what the words' own Get tells.
func getsWith(t *testing.T, what string, b []byte, want api.Fault) {
	t.Helper()
	if f := getsAs(t, what, b); f != want {
		t.Errorf("%s: fault %d, not %d", what, f, want)
	}
}

func TestP1002ExampleOfNoEntry(t *testing.T) {
	want := sealed([]byte{3, 0, 0})
	for _, l := range [][]segment.Entry{nil, {}} {
		b, f := segment.Put(crc.New(), l)
		if f != api.OK || !bytes.Equal(b, want) || len(b) != 7 {
			t.Errorf("% x, fault %d", b, f)
		}
	}
	getsWith(t, "no entry", want, api.OK)
}

func TestP1002PutByteForByte(t *testing.T) {
	name := bytes.Repeat([]byte{0xAB}, 32)
	want := bytes.Join([][]byte{
		{3, 0, 50 + 54},
		{3, 0, 47, 2, 0, 32},
		make([]byte, 32),
		{1, 0, 2, 1, 44, 1, 0, 0, 1, 0, 1, 1},
		{3, 0, 51, 2, 0, 32},
		name,
		{1, 0, 3, 15, 66, 63, 1, 0, 2, 46, 224, 1, 0, 2, 46, 224},
	}, nil)
	b, f := segment.Put(crc.New(), []segment.Entry{
		{W: shelf.Where{Pack: 300, At: 0, Len: 1}},
		{Name: api.Hash(name), W: shelf.Where{Pack: 999999, At: 12000, Len: 12000}},
	})
	if f != api.OK || !bytes.Equal(b, sealed(want)) {
		t.Errorf("% x, fault %d; not % x", b, f, sealed(want))
	}
}

func TestP1002PutAndGetOfRightEntries(t *testing.T) {
	c := crc.New()
	lists := [][]segment.Entry{rising(1), rising(2), rising(899), rising(900)}
	for _, w := range goodPlaces() {
		lists = append(lists, []segment.Entry{{Name: named(9), W: w}})
	}
	greatest := rising(900)
	for i := range greatest {
		greatest[i].W = shelf.Where{Pack: 999999, At: 12000, Len: 12000}
	}
	for _, l := range append(lists, greatest) {
		b, f := segment.Put(c, l)
		if f != api.OK || !bytes.Equal(b, sealed(listForm(l...))) {
			t.Errorf("%s: Put: %d bytes, fault %d", told(l), len(b), f)
		}
		got, f := segment.Get(c, b)
		if f != api.OK {
			t.Errorf("%s: Get: fault %d", told(l), f)
		}
		are(t, "got", got, l...)
	}
}

func TestP1002PutOfWrongLists(t *testing.T) {
	for what, l := range wrongLists() {
		if b, f := segment.Put(crc.New(), l); f != api.BadArg || b != nil {
			t.Errorf("%s: %d bytes, fault %d", what, len(b), f)
		}
	}
}

// No table is told ahead of all else.
func TestP1002NoTable(t *testing.T) {
	for what, l := range map[string][]segment.Entry{"none": nil, "right": rising(3), "901": rising(901), "falling": {one(2, 1, 1, 1), one(1, 1, 1, 1)}} {
		if b, f := segment.Put(nil, l); f != api.Nil || b != nil {
			t.Errorf("%s: Put: %d bytes, fault %d", what, len(b), f)
		}
	}
	for _, b := range [][]byte{nil, {1}, sealed(listForm()), sealed(listForm(rising(3)...)), {0, 0, 0, 0}, {1, 2, 3, 4, 5}} {
		if l, f := segment.Get(nil, b); f != api.Nil || l != nil {
			t.Errorf("% x: Get: %d entries, fault %d", b, len(l), f)
		}
	}
}

func TestP1002AZeroTableIsATable(t *testing.T) {
	l := rising(3)
	b, f := segment.Put(new(crc.Table), l)
	got, g := segment.Get(new(crc.Table), b)
	if f != api.OK || g != api.OK {
		t.Errorf("faults %d, %d", f, g)
	}
	are(t, "a zero table", got, l...)
}

func TestP1002GetOfBytesThatAreNotSealed(t *testing.T) {
	for n := range 4 {
		getsWith(t, "too short", make([]byte, n), api.Malformed)
	}
	getsWith(t, "nil", nil, api.Malformed)
	getsWith(t, "nothing, sealed", []byte{0, 0, 0, 0}, api.Malformed)
	getsWith(t, "another sum of nothing", []byte{0, 0, 0, 1}, api.Corrupt)
	for _, l := range [][]segment.Entry{nil, rising(1), rising(5)} {
		b := listForm(l...)
		getsWith(t, "no sum", append(bytes.Clone(b), 0, 0, 0, 0), api.Corrupt)
		s := sealed(b)
		n := len(s)
		getsWith(t, "the sum the highest first", append(bytes.Clone(b), s[n-1], s[n-2], s[n-3], s[n-4]), api.Corrupt)
		getsWith(t, "a byte behind the sum", append(bytes.Clone(s), 0), api.Corrupt)
		getsWith(t, "a byte ahead", append([]byte{0}, s...), api.Corrupt)
		getsWith(t, "sealed twice", sealed(s), api.Malformed)
		for i := range s {
			want := api.Corrupt
			if i < 4 {
				want = api.Malformed
			}
			getsWith(t, "cut", s[:i], want)
			getsWith(t, "cut, with room behind", append(make([]byte, 0, 600), s[:i]...), want)
		}
	}
	getsWith(t, "no entry's form alone", listForm(), api.Malformed)
	getsWith(t, "a form alone", listForm(rising(2)...), api.Corrupt)
}

func TestP1002GetOfTurnedBits(t *testing.T) {
	for _, l := range [][]segment.Entry{nil, rising(1), rising(4)} {
		b := sealed(listForm(l...))
		for i := range b {
			for bit := range 8 {
				b[i] ^= 1 << bit
				getsWith(t, "a bit is turned", b, api.Corrupt)
				b[i] ^= 1 << bit
			}
		}
	}
}

// Sealed bytes that are the form of no value.
func TestP1002GetOfNoForms(t *testing.T) {
	name := form(2, make([]byte, 32))
	deep := form(3)
	for range 8 {
		deep = form(3, deep)
	}
	whole := listForm(rising(2)...)
	for what, b := range map[string][]byte{
		"nothing":                nil,
		"a byte":                 {3},
		"two bytes":              {3, 0},
		"tag 0":                  {0, 0, 0},
		"tag 4":                  {4, 0, 0},
		"a length that is more":  {3, 0, 1},
		"a byte that is left":    append(bytes.Clone(whole), 0),
		"a list behind":          append(bytes.Clone(whole), 3, 0, 0),
		"the same behind":        append(bytes.Clone(whole), whole...),
		"entries without a list": whole[3:],
		"cut":                    whole[:len(whole)-1],
		"a byte within the list": form(3, entryForm(one(1, 1, 1, 1)), []byte{0}),
		"a byte within an entry": form(3, form(3, name, num(1), num(1), num(1), []byte{9})),
		"a 0 ahead":              form(3, form(3, name, form(1, []byte{0, 1}), num(1), num(1))),
		"a number of a 0":        form(3, form(3, name, num(1), form(1, []byte{0}), num(1))),
		"a number of nine bytes": form(3, form(3, name, num(1), num(1), form(1, []byte{1, 2, 3, 4, 5, 6, 7, 8, 9}))),
		"nested nine deep":       deep,
		"words":                  []byte("hay in a loft"),
	} {
		getsWith(t, what, sealed(b), api.Malformed)
	}
}

// Sealed forms of values that are no entries.
func TestP1002GetOfOtherSorts(t *testing.T) {
	name, n := form(2, make([]byte, 32)), num(7)
	list32 := form(3, bytes.Repeat(num(0), 32))
	for what, b := range map[string][]byte{
		"the number 0":              num(0),
		"a number":                  num(9),
		"no bytes":                  form(2),
		"bytes":                     form(2, []byte("x")),
		"bytes of a list":           form(2, listForm(rising(2)...)),
		"an entry alone":            entryForm(one(1, 1, 1, 1)),
		"a list too much about it":  form(3, listForm(rising(2)...)),
		"a list of a number":        form(3, n),
		"a list of bytes":           form(3, name),
		"an entry that is a number": form(3, entryForm(one(1, 1, 1, 1)), n),
		"an entry that is bytes":    form(3, form(2, name, n, n, n)),
		"an entry of nothing":       form(3, form(3)),
		"an entry of a name":        form(3, form(3, name)),
		"an entry of three":         form(3, form(3, name, n, n)),
		"an entry of five":          form(3, form(3, name, n, n, n, n)),
		"an entry of a list more":   form(3, form(3, name, n, n, n, form(3))),
		"an entry of three, second": form(3, entryForm(one(1, 1, 1, 1)), form(3, form(2, bytes.Repeat([]byte{9}, 32)), n, n)),
		"no name":                   form(3, form(3, n, n, n)),
		"Name of no byte":           form(3, form(3, form(2), n, n, n)),
		"Name of 31":                form(3, form(3, form(2, make([]byte, 31)), n, n, n)),
		"Name of 33":                form(3, form(3, form(2, make([]byte, 33)), n, n, n)),
		"Name of 64":                form(3, form(3, form(2, make([]byte, 64)), n, n, n)),
		"Name a number":             form(3, form(3, n, n, n, n)),
		"Name the number 0":         form(3, form(3, num(0), n, n, n)),
		"Name a list":               form(3, form(3, list32, n, n, n)),
		"Name an empty list":        form(3, form(3, form(3), n, n, n)),
		"Name last":                 form(3, form(3, n, n, n, name)),
		"Pack bytes":                form(3, form(3, name, form(2, []byte{7}), n, n)),
		"Pack a list":               form(3, form(3, name, form(3, n), n, n)),
		"At no bytes":               form(3, form(3, name, n, form(2), n)),
		"At bytes":                  form(3, form(3, name, n, form(2, []byte{7}), n)),
		"At an empty list":          form(3, form(3, name, n, form(3), n)),
		"At a list":                 form(3, form(3, name, n, form(3, n), n)),
		"Len bytes":                 form(3, form(3, name, n, n, form(2, []byte{7}))),
		"Len a list":                form(3, form(3, name, n, n, form(3, n))),
		"the longest bytes":         form(2, make([]byte, 65535)),
	} {
		getsWith(t, what, sealed(b), api.Malformed)
	}
	getsWith(t, "a list of four of their sorts", sealed(form(3, form(3, name, n, n, n))), api.OK)
}

// Numbers that are no int, or whose lowest bits alone would do.
func TestP1002GetOfGreatNumbers(t *testing.T) {
	name, n := form(2, make([]byte, 32)), num(7)
	for _, great := range [][]byte{
		{255, 255, 255, 255, 255, 255, 255, 255},
		{0x80, 0, 0, 0, 0, 0, 0, 0},
		{0x80, 0, 0, 0, 0, 0, 0, 7},
		{0x7F, 255, 255, 255, 255, 255, 255, 255},
		{1, 0, 0, 0, 7},
		{0x80, 0, 0, 7},
		{1, 0, 0, 0},
	} {
		x := form(1, great)
		getsWith(t, "Pack", sealed(form(3, form(3, name, x, n, n))), api.Malformed)
		getsWith(t, "At", sealed(form(3, form(3, name, n, x, n))), api.Malformed)
		getsWith(t, "Len", sealed(form(3, form(3, name, n, n, x))), api.Malformed)
	}
}

// Forms that Put would make if it were not for Right.
func TestP1002GetOfWrongLists(t *testing.T) {
	for what, l := range wrongLists() {
		negative := false
		for _, e := range l {
			negative = negative || e.W.Pack < 0 || e.W.At < 0 || e.W.Len < 0
		}
		if b := listForm(l...); !negative && len(b) <= 65538 {
			getsWith(t, what, sealed(b), api.Malformed)
		}
	}
	many := rising(1200)
	getsWith(t, "1200", sealed(listForm(many...)), api.Malformed)
	getsWith(t, "901", sealed(listForm(many[:901]...)), api.Malformed)
	getsWith(t, "900", sealed(listForm(many[:900]...)), api.OK)
}

// Entries one of whose bytes is another one, sealed then.
func TestP1002GetOfOtherBytesSealed(t *testing.T) {
	b := listForm(one(1, 1, 0, 1), one(2, 300, 256, 257))
	good := 0
	for i := range b {
		for x := range 256 {
			c := bytes.Clone(b)
			c[i] = byte(x)
			if getsAs(t, "another byte", sealed(c)) == api.OK {
				good++
			}
		}
	}
	if good < 3000 {
		t.Errorf("just %d were entries", good)
	}
}

func TestP1002GetOfAnyBytes(t *testing.T) {
	r := rand.New(rand.NewSource(1002))
	for range 20000 {
		b := make([]byte, r.Intn(40))
		for i := range b {
			b[i] = byte(r.Intn(5))
		}
		getsAs(t, "any bytes", b)
		getsAs(t, "any bytes, sealed", sealed(b))
		getsAs(t, "any bytes in a list, sealed", sealed(form(3, b)))
		getsAs(t, "any entry, sealed", sealed(form(3, form(3, form(2, make([]byte, 32)), b))))
	}
}
