package store_test

import (
	"testing"

	"hayloft/api"
	"hayloft/store"
)

func TestP1201NoFileSystem(t *testing.T) {
	o, f := store.Open(nil)
	if o != nil || f != api.Nil {
		t.Errorf("Open: %v, fault %d", o != nil, f)
	}
}

// nobody: a nil store, and one that Open did not make, which is as good as none.
func nobody() map[string]*store.Store {
	return map[string]*store.Store{"nil": nil, "zero": new(store.Store)}
}

func TestP1201FSOfNoStore(t *testing.T) {
	for what, o := range nobody() {
		if o.FS() != nil {
			t.Errorf("%s: FS", what)
		}
	}
}

func TestP1202NilStore(t *testing.T) {
	for what, o := range nobody() {
		for _, x := range append(noObjects(), objects(0, 3, 5000)...) {
			if o.Name(x) != (api.Hash{}) {
				t.Errorf("%s: Name", what)
			}
			if h, f := o.Put(x); h != (api.Hash{}) || f != api.Nil {
				t.Errorf("%s: Put: fault %d", what, f)
			}
			if o.Has(named(x)) || o.Has(api.Hash{}) {
				t.Errorf("%s: Has", what)
			}
		}
	}
}

func TestP1203NilStore(t *testing.T) {
	for what, o := range nobody() {
		notGot(t, what, o, api.Nil, api.Hash{}, named(object(1, 1)))
	}
}

func TestP1204NilStore(t *testing.T) {
	for what, o := range nobody() {
		notFlushed(t, what, o, api.Nil)
		counts(t, what, o.Pending(), 0)
	}
}

func TestP1205NilStore(t *testing.T) {
	for what, o := range nobody() {
		namesAre(t, what, o)
		for _, keep := range [][]api.Hash{nil, {}, {{}}, names(object(1, 1))} {
			notReplaced(t, what, o, keep, api.Nil)
		}
	}
}

func TestP1206NilStore(t *testing.T) {
	for what, o := range nobody() {
		counts(t, what, o.Bytes(), 0)
		spoilt(t, what, o)
	}
}
