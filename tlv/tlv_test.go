package tlv_test

import (
	"bytes"
	"encoding/hex"
	"maps"
	"math"
	"strings"
	"testing"

	"hayloft/api"
	"hayloft/tlv"
)

// unhex: the bytes of a text of hexadecimal digits, in which blanks are for the reader.
func unhex(t *testing.T, s string) []byte {
	t.Helper()
	b, err := hex.DecodeString(strings.ReplaceAll(s, " ", ""))
	if err != nil {
		t.Fatal(err)
	}
	return b
}

// nested: an empty list in as many lists that it is n deep in all.
func nested(n int) tlv.Value {
	v := tlv.Value{Tag: 3}
	for i := 1; i < n; i++ {
		v = tlv.Value{Tag: 3, List: []tlv.Value{v}}
	}
	return v
}

// nestedForm: the form of nested(n), reckoned without the program.
func nestedForm(n int) []byte {
	var b []byte
	for i := 0; i < n; i++ {
		b = append([]byte{3, byte(len(b) >> 8), byte(len(b))}, b...)
	}
	return b
}

// holdsItself: a list in which it stands itself, times over.
func holdsItself(times int) tlv.Value {
	l := make([]tlv.Value, times)
	for i := range l {
		l[i] = tlv.Value{Tag: 3, List: l}
	}
	return l[0]
}

// sharedLists: lists deep deep, each of which has the next one 1000 times.
func sharedLists(deep int) tlv.Value {
	v := tlv.Value{Tag: 3}
	for i := 1; i < deep; i++ {
		l := make([]tlv.Value, 1000)
		for k := range l {
			l[k] = v
		}
		v = tlv.Value{Tag: 3, List: l}
	}
	return v
}

// zeros: n numbers 0, each of which has a form of three bytes.
func zeros(n int) []tlv.Value {
	l := make([]tlv.Value, n)
	for i := range l {
		l[i] = tlv.Value{Tag: 1}
	}
	return l
}

// exact: whether all fields are alike, asked without the program.
func exact(a, b tlv.Value) bool {
	if a.Tag != b.Tag || a.N != b.N || string(a.B) != string(b.B) || len(a.List) != len(b.List) {
		return false
	}
	for i := range a.List {
		if !exact(a.List[i], b.List[i]) {
			return false
		}
	}
	return true
}

func isZero(v tlv.Value) bool {
	return v.Tag == 0 && v.N == 0 && v.B == nil && v.List == nil
}

type pair struct {
	name string
	v    tlv.Value
	form []byte
}

// pairs: right values, and their forms as the chapter words them.
func pairs(t *testing.T) []pair {
	of := func(l ...tlv.Value) tlv.Value { return tlv.Value{Tag: 3, List: l} }
	num := func(n uint64) tlv.Value { return tlv.Value{Tag: 1, N: n} }
	text := func(s string) tlv.Value { return tlv.Value{Tag: 2, B: []byte(s)} }
	long := bytes.Repeat([]byte{7}, 65535)
	return []pair{
		{"the example", of(num(300), text("a")), unhex(t, "03 0009 01 0002 012C 02 0001 61")},
		{"0", num(0), unhex(t, "01 0000")},
		{"1", num(1), unhex(t, "01 0001 01")},
		{"255", num(255), unhex(t, "01 0001 FF")},
		{"256", num(256), unhex(t, "01 0002 0100")},
		{"65535", num(65535), unhex(t, "01 0002 FFFF")},
		{"65536", num(65536), unhex(t, "01 0003 010000")},
		{"2^56 - 1", num(1<<56 - 1), unhex(t, "01 0007 FFFFFFFFFFFFFF")},
		{"2^56", num(1 << 56), unhex(t, "01 0008 0100000000000000")},
		{"2^63", num(1 << 63), unhex(t, "01 0008 8000000000000000")},
		{"the highest number", num(math.MaxUint64), unhex(t, "01 0008 FFFFFFFFFFFFFFFF")},
		{"every byte of a number", num(0x0102030405060708), unhex(t, "01 0008 0102030405060708")},
		{"no bytes", text(""), unhex(t, "02 0000")},
		{"a byte 0", text("\x00"), unhex(t, "02 0001 00")},
		{"bytes with zeros ahead", text("\x00\x00\x01"), unhex(t, "02 0003 000001")},
		{"bytes like a form", text("\x01\x00\x00"), unhex(t, "02 0003 010000")},
		{"256 bytes", text(strings.Repeat("b", 256)), append(unhex(t, "02 0100"), strings.Repeat("b", 256)...)},
		{"an empty list", of(), unhex(t, "03 0000")},
		{"empty ones in a list", of(num(0), text(""), of()), unhex(t, "03 0009 010000 020000 030000")},
		{"lists beside each other", of(of(num(1)), of(), of(of(text("x")))), unhex(t, "03 0014 03 0004 01 0001 01 03 0000 03 0007 03 0004 02 0001 78")},
		{"8 deep", nested(8), nestedForm(8)},
		{"empty fields that are not nil", tlv.Value{Tag: 1, N: 5, B: []byte{}, List: []tlv.Value{}}, unhex(t, "01 0001 05")},
		{"65535 bytes", tlv.Value{Tag: 2, B: long}, append(unhex(t, "02 FFFF"), long...)},
		{"a list of 65535 bytes", of(tlv.Value{Tag: 2, B: long[:65532]}), append(unhex(t, "03 FFFF 02 FFFC"), long[:65532]...)},
		{"a list of 65535 bytes, in two parts", of(num(9), tlv.Value{Tag: 2, B: long[:65528]}), append(unhex(t, "03 FFFF 01 0001 09 02 FFF8"), long[:65528]...)},
		{"a list of 21845 numbers 0", of(zeros(21845)...), append(unhex(t, "03 FFFF"), bytes.Repeat([]byte{1, 0, 0}, 21845)...)},
	}
}

// wrong: values that are not right, each by itself and in lists.
func wrong() map[string]tlv.Value {
	num, text, list := tlv.Value{Tag: 1}, tlv.Value{Tag: 2}, tlv.Value{Tag: 3}
	m := map[string]tlv.Value{
		"the zero value":         {},
		"Tag 4":                  {Tag: 4},
		"Tag -1":                 {Tag: -1},
		"Tag 257":                {Tag: 257},
		"Tag 258":                {Tag: 258},
		"Tag 259":                {Tag: 259},
		"Tag -255":               {Tag: -255},
		"the lowest Tag":         {Tag: math.MinInt},
		"the highest Tag":        {Tag: math.MaxInt},
		"a number with bytes":    {Tag: 1, N: 1, B: []byte{0}},
		"a number with a list":   {Tag: 1, N: 1, List: []tlv.Value{num}},
		"0 with bytes":           {Tag: 1, B: []byte{0}},
		"bytes with a number":    {Tag: 2, N: 1, B: []byte{1}},
		"no bytes with a number": {Tag: 2, N: 1},
		"bytes with a list":      {Tag: 2, B: []byte{1}, List: []tlv.Value{text}},
		"a list with a number":   {Tag: 3, N: 1, List: []tlv.Value{list}},
		"a list with bytes":      {Tag: 3, B: []byte{0}, List: []tlv.Value{list}},
		"9 deep":                 nested(9),
		"10 deep":                nested(10),
		"9 deep behind others":   {Tag: 3, List: []tlv.Value{num, nested(3), nested(8)}},
		"65536 bytes":            {Tag: 2, B: make([]byte, 65536)},
		"131072 bytes":           {Tag: 2, B: make([]byte, 131072)},
		"a list of 65536 bytes":  {Tag: 3, List: []tlv.Value{{Tag: 2, B: make([]byte, 65533)}}},
		"65536 in two parts":     {Tag: 3, List: []tlv.Value{{Tag: 2, B: make([]byte, 65529)}, {Tag: 1, N: 9}}},
		"65536 in lists":         {Tag: 3, List: []tlv.Value{{Tag: 3, List: []tlv.Value{{Tag: 2, B: make([]byte, 65530)}}}}},
		"65535 bytes in a list":  {Tag: 3, List: []tlv.Value{{Tag: 2, B: make([]byte, 65535)}}},
		"21846 numbers 0":        {Tag: 3, List: zeros(21846)},
		"21845 and an empty one": {Tag: 3, List: append(zeros(21845), list)},
		"one that holds itself":  holdsItself(1),
		"holds itself twice":     holdsItself(2),
		"holds itself 100 times": holdsItself(100),
		"shared lists, 8 deep":   sharedLists(8),
		"shared lists, 20 deep":  sharedLists(20),
	}
	all := maps.Clone(m)
	for name, v := range m {
		all["in lists: "+name] = tlv.Value{Tag: 3, List: []tlv.Value{num, {Tag: 3, List: []tlv.Value{v}}}}
	}
	return all
}

func TestP101RightValuesArePut(t *testing.T) {
	for _, p := range pairs(t) {
		if !tlv.Right(p.v) {
			t.Errorf("%s: not right", p.name)
		}
		if n := tlv.Size(p.v); n != len(p.form) {
			t.Errorf("%s: Size %d, not %d", p.name, n, len(p.form))
		}
		b, f := tlv.Put(p.v)
		if f != api.OK || !bytes.Equal(b, p.form) {
			t.Errorf("%s: Put % .40x (%d bytes), fault %d, not % .40x (%d bytes)", p.name, b, len(b), f, p.form, len(p.form))
		}
	}
}

func TestP101WrongValuesAreRefused(t *testing.T) {
	for name, v := range wrong() {
		if tlv.Right(v) {
			t.Errorf("%s: right", name)
		}
		if n := tlv.Size(v); n != 0 {
			t.Errorf("%s: Size %d, not 0", name, n)
		}
		if b, f := tlv.Put(v); f != api.BadArg || len(b) != 0 {
			t.Errorf("%s: Put %d bytes, fault %d, not BadArg", name, len(b), f)
		}
	}
}

// Numbers and bytes are no lists: where a list must not stand any more, they may.
func TestP101DepthCountsListsAlone(t *testing.T) {
	v := nested(8)
	in := &v
	for len(in.List) > 0 {
		in = &in.List[0]
	}
	in.List = []tlv.Value{{Tag: 1, N: 1}, {Tag: 2, B: []byte("deep")}}
	if !tlv.Right(v) {
		t.Error("numbers and bytes in the eighth list: not right")
	}
	in.List = append(in.List, tlv.Value{Tag: 3})
	if tlv.Right(v) {
		t.Error("an empty list in the eighth: right")
	}
}

func TestP102FormsAreTaken(t *testing.T) {
	for _, p := range pairs(t) {
		v, f := tlv.Get(p.form)
		if f != api.OK || !exact(v, p.v) {
			t.Errorf("%s: Get: fault %d, or another value", p.name, f)
		}
		v, rest, f := tlv.Take(p.form)
		if f != api.OK || !exact(v, p.v) || len(rest) != 0 {
			t.Errorf("%s: Take: fault %d, rest %d bytes, or another value", p.name, f, len(rest))
		}
		for _, tail := range []string{"\x00", "\x01\x00\x00", "\x09\xff\xff", strings.Repeat("t", 70000)} {
			long := append(bytes.Clone(p.form), tail...)
			v, rest, f := tlv.Take(long)
			if f != api.OK || !exact(v, p.v) || string(rest) != tail {
				t.Errorf("%s and %d bytes: Take: fault %d, rest %d bytes, or another value", p.name, len(tail), f, len(rest))
			}
			if v, f := tlv.Get(long); f != api.Malformed || !isZero(v) {
				t.Errorf("%s and %d bytes: Get: fault %d, not Malformed and nothing", p.name, len(tail), f)
			}
		}
	}
}

func TestP102OtherBytesAreRefused(t *testing.T) {
	list := func(body string) []byte { return append([]byte{3, byte(len(body) >> 8), byte(len(body))}, body...) }
	bad := map[string][]byte{
		"nil":                             nil,
		"nothing":                         {},
		"a tag alone":                     {1},
		"half a length":                   {1, 0},
		"Tag 0":                           {0, 0, 0},
		"Tag 4":                           {4, 0, 0},
		"Tag 255":                         {255, 0, 0},
		"0 as a byte 0":                   {1, 0, 1, 0},
		"1 with a zero ahead":             {1, 0, 2, 0, 1},
		"300 with zeros ahead":            {1, 0, 4, 0, 0, 1, 44},
		"8 bytes with a zero ahead":       {1, 0, 8, 0, 1, 2, 3, 4, 5, 6, 7},
		"a number of 9 bytes":             {1, 0, 9, 1, 0, 0, 0, 0, 0, 0, 0, 0},
		"a number of 9 bytes, zero ahead": {1, 0, 9, 0, 1, 0, 0, 0, 0, 0, 0, 0},
		"a number of 264 bytes":           append([]byte{1, 1, 8}, bytes.Repeat([]byte{1}, 264)...),
		"a number cut off":                {1, 0, 2, 1},
		"bytes cut off":                   {2, 0, 3, 1, 2},
		"65535 bytes of which one lacks":  append([]byte{2, 255, 255}, make([]byte, 65534)...),
		"256 bytes told, one there":       {2, 1, 0, 7},
		"a list cut off":                  {3, 0, 3, 1, 0},
		"a value that outgrows its list":  {3, 0, 3, 2, 0, 1, 97},
		"a tag alone in a list":           list("\x01"),
		"half a length in a list":         list("\x01\x00\x00\x01\x00"),
		"Tag 0 in a list":                 list("\x00\x00\x00"),
		"Tag 4 in a list":                 list("\x01\x00\x00\x04\x00\x00"),
		"zeros ahead in a list":           list("\x01\x00\x01\x00"),
		"zeros ahead, deeper":             list("\x03\x00\x04\x01\x00\x01\x00"),
		"9 deep":                          nestedForm(9),
		"100 deep":                        nestedForm(100),
		"21845 deep":                      nestedForm(21845),
		"9 deep behind others":            list("\x01\x00\x00" + string(nestedForm(8))),
	}
	for name, b := range bad {
		if v, rest, f := tlv.Take(b); f != api.Malformed || !isZero(v) || rest != nil {
			t.Errorf("%s: Take: fault %d, not Malformed and nothing", name, f)
		}
		if v, f := tlv.Get(b); f != api.Malformed || !isZero(v) {
			t.Errorf("%s: Get: fault %d, not Malformed and nothing", name, f)
		}
	}
}

func TestP102CutFormsAreRefused(t *testing.T) {
	for _, p := range pairs(t) {
		for n := range min(len(p.form), 300) {
			if _, _, f := tlv.Take(p.form[:n]); f != api.Malformed {
				t.Errorf("%s, its first %d bytes: Take: fault %d, not Malformed", p.name, n, f)
			}
		}
		if _, f := tlv.Get(p.form[:len(p.form)-1]); f != api.Malformed {
			t.Errorf("%s, its last byte off: Get: fault %d, not Malformed", p.name, f)
		}
	}
}

func TestP103Same(t *testing.T) {
	apart := []tlv.Value{
		{},
		{Tag: 1},
		{Tag: 2},
		{Tag: 3},
		{Tag: 4},
		{Tag: -1},
		{Tag: 1, N: 1},
		{Tag: 1, N: 1 << 32},
		{Tag: 1, N: 1<<32 + 1},
		{Tag: 1, N: 1 << 63},
		{Tag: 1, B: []byte{0}},
		{Tag: 1, List: []tlv.Value{{}}},
		{Tag: 2, N: 1},
		{Tag: 2, B: []byte{0}},
		{Tag: 2, B: []byte{0, 0}},
		{Tag: 2, B: []byte{1}},
		{Tag: 2, B: []byte{1, 2}},
		{Tag: 2, B: []byte{2, 1}},
		{Tag: 2, B: []byte{1}, List: []tlv.Value{{Tag: 1}}},
		{Tag: 3, N: 1},
		{Tag: 3, B: []byte{1}},
		{Tag: 3, List: []tlv.Value{{}}},
		{Tag: 3, List: []tlv.Value{{Tag: 1}}},
		{Tag: 3, List: []tlv.Value{{Tag: 1}, {Tag: 1}}},
		{Tag: 3, List: []tlv.Value{{Tag: 1}, {Tag: 2}}},
		{Tag: 3, List: []tlv.Value{{Tag: 2}, {Tag: 1}}},
		{Tag: 3, List: []tlv.Value{{Tag: 1, N: 1}}},
		{Tag: 3, List: []tlv.Value{{Tag: 3, List: []tlv.Value{{Tag: 1}}}, {Tag: 1}}},
		{Tag: 3, List: []tlv.Value{{Tag: 3, List: []tlv.Value{{Tag: 1}, {Tag: 1}}}}},
		nested(9),
		nested(10),
	}
	for i, a := range apart {
		for k, b := range apart {
			if tlv.Same(a, b) != (i == k) {
				t.Errorf("Same of %v and %v: %v", a, b, i != k)
			}
		}
	}
	for _, p := range pairs(t) {
		if v, _ := tlv.Get(p.form); !tlv.Same(v, p.v) || !tlv.Same(p.v, v) {
			t.Errorf("%s: not the same as what is read", p.name)
		}
	}
}

func TestP103SameTakesNilAsEmpty(t *testing.T) {
	for tag := range 5 {
		a := tlv.Value{Tag: tag}
		b := tlv.Value{Tag: tag, B: []byte{}, List: []tlv.Value{}}
		if !tlv.Same(a, b) || !tlv.Same(b, a) {
			t.Errorf("Tag %d: nil is not the same as empty", tag)
		}
	}
}

func TestP103SameOfDeepValues(t *testing.T) {
	a, b := nested(1<<16), nested(1<<16)
	if !tlv.Same(a, b) {
		t.Error("2^16 deep: not the same")
	}
	if tlv.Same(a, nested(1<<16-1)) {
		t.Error("2^16 deep, and one less: the same")
	}
}

func TestP103Makers(t *testing.T) {
	for _, n := range []uint64{0, 1, 300, math.MaxUint64} {
		if v := tlv.Number(n); !exact(v, tlv.Value{Tag: 1, N: n}) {
			t.Errorf("Number(%d): %v", n, v)
		}
	}
	for _, s := range []string{"", "\x00", "a", "\xff\x00"} {
		if v := tlv.Bytes([]byte(s)); !exact(v, tlv.Value{Tag: 2, B: []byte(s)}) {
			t.Errorf("Bytes(%q): %v", s, v)
		}
	}
	if v := tlv.Bytes(nil); !exact(v, tlv.Value{Tag: 2}) {
		t.Errorf("Bytes(nil): %v", v)
	}
	if v := tlv.Bytes(make([]byte, 65536)); v.Tag != 2 || len(v.B) != 65536 {
		t.Error("Bytes of 65536: another value")
	}
	if v := tlv.Many(); !exact(v, tlv.Value{Tag: 3}) {
		t.Errorf("Many(): %v", v)
	}
	one, odd := tlv.Value{Tag: 2, B: []byte("x")}, tlv.Value{Tag: 9, N: 1, B: []byte("y"), List: []tlv.Value{{Tag: 1}}}
	if v := tlv.Many(one, odd, one); !exact(v, tlv.Value{Tag: 3, List: []tlv.Value{one, odd, one}}) {
		t.Errorf("Many of three: %v", v)
	}
	if v := tlv.Many(nested(1 << 16)); !exact(v, nested(1<<16+1)) {
		t.Error("Many of a list 2^16 deep: another value")
	}
}

// Every call ends, also of values that hold themselves.
func TestP103ValuesThatHoldThemselves(t *testing.T) {
	for _, times := range []int{1, 2, 50} {
		a, b := holdsItself(times), holdsItself(times)
		tlv.Same(a, b)
		if tlv.Right(tlv.Many(a)) {
			t.Errorf("Many of a value that holds itself %d times: right", times)
		}
	}
}
