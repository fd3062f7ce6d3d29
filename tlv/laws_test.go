package tlv_test

import (
	"bytes"
	"math/rand"
	"sort"
	"testing"

	"hayloft/api"
	"hayloft/tlv"
)

// everyText calls do with each text of at most n bytes, all of letters.
func everyText(letters []byte, n int, do func([]byte)) {
	var grow func(b []byte)
	grow = func(b []byte) {
		do(b)
		if len(b) == n {
			return
		}
		for _, x := range letters {
			grow(append(b[:len(b):len(b)], x))
		}
	}
	grow(nil)
}

// anyValue: some right value, deep lists deep at most.
func anyValue(r *rand.Rand, deep int) tlv.Value {
	k := 1 + r.Intn(3)
	if deep == 0 {
		k = 1 + r.Intn(2)
	}
	switch k {
	case 1:
		return tlv.Value{Tag: 1, N: r.Uint64() >> r.Intn(65)}
	case 2:
		b := make([]byte, r.Intn(5))
		r.Read(b)
		return tlv.Value{Tag: 2, B: b}
	}
	v := tlv.Value{Tag: 3}
	for range r.Intn(4) {
		v.List = append(v.List, anyValue(r, deep-1))
	}
	return v
}

func TestP104FormsAreReadAsTheirValues(t *testing.T) {
	r := rand.New(rand.NewSource(104))
	for range 20000 {
		v := anyValue(r, 8)
		form, f := tlv.Put(v)
		if f != api.OK || len(form) != tlv.Size(v) || !tlv.Right(v) {
			t.Fatalf("%v: Put: fault %d, %d bytes", v, f, len(form))
		}
		tail := make([]byte, r.Intn(6))
		r.Read(tail)
		got, rest, f := tlv.Take(append(bytes.Clone(form), tail...))
		if f != api.OK || !exact(got, v) || !tlv.Same(got, v) || !bytes.Equal(rest, tail) {
			t.Fatalf("%v and % x: Take: %v, % x, fault %d", v, tail, got, rest, f)
		}
	}
}

// The letters have each tag, one beside them, and lengths that fit and that do not.
func TestP104NoOtherFormIsRead(t *testing.T) {
	read := 0
	everyText([]byte{0, 1, 2, 3, 4}, 8, func(b []byte) {
		v, rest, f := tlv.Take(b)
		if f != api.OK {
			return
		}
		read++
		form, f := tlv.Put(v)
		if f != api.OK || !bytes.Equal(append(form, rest...), b) {
			t.Fatalf("% x is read as %v, whose form is % x", b, v, form)
		}
	})
	if read == 0 {
		t.Error("nothing is read")
	}
}

func TestP104TurnedFormsAreOtherValues(t *testing.T) {
	r := rand.New(rand.NewSource(1040))
	for range 2000 {
		v := anyValue(r, 4)
		form, _ := tlv.Put(v)
		at := r.Intn(len(form))
		form[at] ^= byte(1 << r.Intn(8))
		if got, f := tlv.Get(form); f == api.OK {
			again, g := tlv.Put(got)
			if g != api.OK || !bytes.Equal(again, form) || tlv.Same(got, v) {
				t.Fatalf("%v with byte %d turned: read as %v", v, at, got)
			}
		}
	}
}

func TestP104NoFormBeginsAnother(t *testing.T) {
	var forms [][]byte
	everyText([]byte{0, 1, 2, 3, 4}, 7, func(b []byte) {
		if _, f := tlv.Get(b); f == api.OK {
			forms = append(forms, bytes.Clone(b))
		}
	})
	r := rand.New(rand.NewSource(10400))
	for range 2000 {
		b, _ := tlv.Put(anyValue(r, 8))
		forms = append(forms, b)
	}
	// In order of bytes, what a form begins stands right behind it.
	sort.Slice(forms, func(i, k int) bool { return bytes.Compare(forms[i], forms[k]) < 0 })
	for i := 1; i < len(forms); i++ {
		if len(forms[i-1]) < len(forms[i]) && bytes.HasPrefix(forms[i], forms[i-1]) {
			t.Errorf("% x begins % x", forms[i-1], forms[i])
		}
	}
	if len(forms) < 2000 {
		t.Errorf("%d forms alone", len(forms))
	}
}

func FuzzTake(f *testing.F) {
	f.Add([]byte{3, 0, 9, 1, 0, 2, 1, 44, 2, 0, 1, 97})
	f.Add([]byte{1, 0, 1, 0})
	f.Add(nestedForm(8))
	f.Add(nestedForm(9))
	f.Fuzz(func(t *testing.T, b []byte) {
		v, rest, fault := tlv.Take(b)
		if fault != api.OK {
			if fault != api.Malformed || !isZero(v) || rest != nil {
				t.Fatalf("fault %d with %v, % x", fault, v, rest)
			}
			return
		}
		form, fault := tlv.Put(v)
		if fault != api.OK || !bytes.Equal(append(form, rest...), b) {
			t.Fatalf("% x is read as %v, whose form is % x", b, v, form)
		}
	})
}
