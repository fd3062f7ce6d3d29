package shelf

import (
	"hayloft/api"
	"hayloft/frame"
	"hayloft/pack"
)

// lastID: the greatest that a pack may have.
const lastID = 999999

// Need: how many packs, and bytes of frames, the records take. BadArg: one is not right;
// TooLarge: no pack has room for one.
func Need(l []frame.Record) (packs, bytes int, f api.Fault) {
	if f := wrong(l); f != api.OK {
		return 0, 0, f
	}
	f = deal(l, func(_ []frame.Record, size int) api.Fault {
		packs++
		bytes += size
		return api.OK
	})
	return packs, bytes, f
}

// Lay lays the records into new packs, and tells where each stands. With a fault those
// packs stay that were sealed ahead of it.
func (h *Shelf) Lay(l []frame.Record) ([]Where, api.Fault) {
	if h.none() {
		return nil, api.Nil
	}
	packs, _, f := Need(l)
	if f != api.OK {
		return nil, f
	}
	if h.Next()+packs-1 > lastID {
		return nil, api.TooLarge
	}
	places := make([]Where, 0, len(l))
	f = deal(l, func(part []frame.Record, _ int) api.Fault {
		laid, f := h.layPack(part)
		places = append(places, laid...)
		return f
	})
	if f != api.OK {
		return nil, f
	}
	return places, api.OK
}

// layPack lays the records into the next pack, which is there as a whole, or not.
func (h *Shelf) layPack(l []frame.Record) ([]Where, api.Fault) {
	id := h.Next()
	w, f := pack.Begin(h.fs, h.table, id)
	if f != api.OK {
		return nil, f
	}
	h.begun = id
	places, f := add(w, id, l)
	if f == api.OK {
		f = w.Seal()
	}
	if f != api.OK {
		// Not by Abort, since a Seal that failed has closed the writer. That this can
		// fail too is no matter: another Open cleans up.
		h.fs.Remove(pack.Temp(id))
		return nil, f
	}
	return places, api.OK
}

// add adds the records to the pack of that id, and tells where each stands.
func add(w *pack.Writer, id int, l []frame.Record) ([]Where, api.Fault) {
	places := make([]Where, 0, len(l))
	for _, r := range l {
		at, f := w.Add(r)
		if f != api.OK {
			return nil, f
		}
		places = append(places, Where{Pack: id, At: at, Len: w.Size() - at})
	}
	return places, api.OK
}

// wrong: why the records can't be laid, whatever else there is.
func wrong(l []frame.Record) api.Fault {
	f := api.OK
	for _, r := range l {
		if !frame.Right(r) {
			return api.BadArg // ahead of one that is too large, wherever that stands
		}
		if frame.Size(r) > api.MaxPack {
			f = api.TooLarge
		}
	}
	return f
}

// deal hands the records out in their order, pack by pack, each with as many as fit and
// how many bytes their frames have, till take has a fault. Nothing is wrong with them: each
// fits into a pack of its own.
func deal(l []frame.Record, take func(part []frame.Record, size int) api.Fault) api.Fault {
	from, size := 0, 0
	for i, r := range l {
		n := frame.Size(r)
		if size+n > api.MaxPack {
			if f := take(l[from:i], size); f != api.OK {
				return f
			}
			from, size = i, 0
		}
		size += n
	}
	if from == len(l) {
		return api.OK
	}
	return take(l[from:], size)
}
