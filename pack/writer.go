package pack

import (
	"hayloft/api"
	"hayloft/crc"
	"hayloft/frame"
	"hayloft/simfs"
)

// Writer: of a pack. One that Begin did not make is as good as none.
type Writer struct {
	fs     *simfs.FS
	table  *crc.Table
	id     int
	size   int
	count  int
	closed bool
}

// Begin: a writer of a new pack, which stands under its temporary name till it is sealed.
func Begin(s *simfs.FS, t *crc.Table, id int) (*Writer, api.Fault) {
	if s == nil || t == nil {
		return nil, api.Nil
	}
	if !isID(id) {
		return nil, api.BadArg
	}
	if _, f := s.Size(Name(id)); f == api.OK {
		return nil, api.Exists
	}
	if f := s.Create(Temp(id)); f != api.OK {
		return nil, f
	}
	return &Writer{fs: s, table: t, id: id}, api.OK
}

// Add lays r behind all others, and tells where. TooLarge: the pack would be.
func (w *Writer) Add(r frame.Record) (int, api.Fault) {
	if f := w.wrong(); f != api.OK {
		return 0, f
	}
	b, f := frame.Put(w.table, r)
	if f != api.OK {
		return 0, f
	}
	if w.size+len(b) > api.MaxPack {
		return 0, api.TooLarge
	}
	if f := w.fs.Append(Temp(w.id), b); f != api.OK {
		return 0, f
	}
	at := w.size
	w.size += len(b)
	w.count++
	return at, api.OK
}

// Size: how many bytes the pack has so far.
func (w *Writer) Size() int {
	if w == nil {
		return 0
	}
	return w.size
}

// Count: how many records the pack has so far.
func (w *Writer) Count() int {
	if w == nil {
		return 0
	}
	return w.count
}

// Seal makes the pack safe, and gives it its name. Early: there is no record yet.
func (w *Writer) Seal() api.Fault {
	if f := w.wrong(); f != api.OK {
		return f
	}
	if w.count == 0 {
		return api.Early
	}
	w.closed = true
	for _, do := range w.sealing() {
		if f := do(); f != api.OK {
			return f
		}
	}
	return api.OK
}

// Abort gives the pack up.
func (w *Writer) Abort() api.Fault {
	if f := w.wrong(); f != api.OK {
		return f
	}
	w.closed = true
	return w.fs.Remove(Temp(w.id))
}

// sealing: what a seal takes, in order. All bytes are safe ahead of the name, so that
// whatever has a pack's name behind a crash is whole.
func (w *Writer) sealing() [3]func() api.Fault {
	temp, name := Temp(w.id), Name(w.id)
	return [3]func() api.Fault{
		func() api.Fault { return w.fs.Fsync(temp) },
		func() api.Fault { return w.fs.Rename(temp, name) },
		w.fs.SyncDir,
	}
}

// wrong: why nothing can be done with w.
func (w *Writer) wrong() api.Fault {
	if w == nil || w.fs == nil {
		return api.Nil
	}
	if w.closed {
		return api.Closed
	}
	return api.OK
}
