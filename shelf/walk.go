package shelf

import (
	"iter"

	"hayloft/api"
	"hayloft/frame"
)

// Walk: the first records of all packs, at most so many, and which packs can't be loaded,
// as far as it came.
func (h *Shelf) Walk(most int) ([]Found, []int) {
	if most < 1 {
		return nil, nil
	}
	var found []Found
	var lost []int
	for x, f := range records(h.IDs(), h.Load) {
		if f != api.OK {
			lost = append(lost, x.W.Pack)
			continue
		}
		found = append(found, x)
		if len(found) == most {
			break
		}
	}
	return found, lost
}

// records goes through the packs record by record; a pack that can't be loaded comes once,
// by its id and the fault. No pack is loaded ahead of its turn.
func records(ids []int, load func(id int) ([]frame.Placed, api.Fault)) iter.Seq2[Found, api.Fault] {
	return func(yield func(Found, api.Fault) bool) {
		for _, id := range ids {
			l, f := load(id)
			if f != api.OK && !yield(Found{W: Where{Pack: id}}, f) {
				return
			}
			for _, p := range l {
				if !yield(Found{W: Where{Pack: id, At: p.At, Len: p.Len}, R: p.R}, api.OK) {
					return
				}
			}
		}
	}
}
