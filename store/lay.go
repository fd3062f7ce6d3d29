package store

import (
	"hayloft/api"
	"hayloft/frame"
	"hayloft/segment"
	"hayloft/shelf"
)

// Flush lays all that wait into packs, and tells how many: they wait no more. With a fault all
// still do, even those that were laid.
func (o *Store) Flush() (int, api.Fault) {
	if o.none() {
		return 0, api.Nil
	}
	n := len(o.order)
	if n == 0 {
		return 0, api.OK
	}
	if f := o.lay(o.order, o.index.Add); f != api.OK {
		return 0, f
	}
	clear(o.waiting)
	o.order = nil
	return n, api.OK
}

// Replace lays the objects of keep into packs of their own and drops all others; how many packs
// these were. Early: something waits; Missing: a name of keep is not there. What was done ahead
// of another fault stays done.
func (o *Store) Replace(keep []api.Hash) (int, api.Fault) {
	if o.none() {
		return 0, api.Nil
	}
	if len(o.order) > 0 {
		return 0, api.Early
	}
	names := rising(keep)
	for _, h := range names {
		if !o.Has(h) {
			return 0, api.Missing
		}
	}
	old := o.shelf.IDs()
	if f := o.lay(names, o.index.Set); f != api.OK {
		return 0, f
	}
	// No sooner than here, so that behind a crash each object that is kept stands somewhere.
	n, f := o.shelf.Drop(old)
	if f != api.OK {
		return 0, f
	}
	return n, api.OK
}

// lay lays the objects of these names into new packs, and then tells where they stand.
func (o *Store) lay(names []api.Hash, tell func([]segment.Entry) api.Fault) api.Fault {
	l, f := records(names, o.Get)
	if f != api.OK {
		return f
	}
	places, f := o.shelf.Lay(l)
	if f != api.OK {
		return f
	}
	return tell(entries(names, places))
}

// records: those of the objects of these names, up to the first that can't be got.
func records(names []api.Hash, get func(api.Hash) (Object, api.Fault)) ([]frame.Record, api.Fault) {
	l := make([]frame.Record, 0, len(names))
	for _, h := range names {
		x, f := get(h)
		if f != api.OK {
			return nil, f
		}
		l = append(l, frame.Record{Kind: x.Kind, Name: h, Body: x.Body})
	}
	return l, api.OK
}

// entries: each name with its place.
func entries(names []api.Hash, places []shelf.Where) []segment.Entry {
	l := make([]segment.Entry, 0, len(names))
	for i, h := range names {
		l = append(l, segment.Entry{Name: h, W: places[i]})
	}
	return l
}
