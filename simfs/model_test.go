package simfs_test

import (
	"bytes"
	"maps"
	"math/rand"
	"slices"
	"strings"
	"testing"

	"hayloft/api"
	"hayloft/simfs"
)

// words: a file system by the chapter's words, which keeps the directory as it was behind each change instead of the changes.
type words struct {
	room   int
	bytes  [][]byte         // of each file, by its number
	safe   []int            // how many of them are safe
	states []map[string]int // the first: the safe directory; the last: the one that is seen
	down   bool
	left   int // below 0: it is not armed
	steps  int64
}

func newWords(room int) *words {
	return &words{room: room, states: []map[string]int{{}}, left: -1}
}

func (w *words) copy() *words {
	c := *w
	c.bytes, c.safe, c.states = nil, slices.Clone(w.safe), nil
	for _, b := range w.bytes {
		c.bytes = append(c.bytes, bytes.Clone(b))
	}
	for _, d := range w.states {
		c.states = append(c.states, maps.Clone(d))
	}
	return &c
}

func (w *words) seen() map[string]int { return w.states[len(w.states)-1] }

func (w *words) used() int {
	n := 0
	for _, at := range w.seen() {
		n += len(w.bytes[at])
	}
	return n
}

// fault: of a call with these names; the first one's file, if it has to be there.
func (w *words) fault(there bool, names ...string) (int, api.Fault) {
	if w.down {
		return 0, api.Down
	}
	for _, n := range names {
		bad := len(n) == 0 || len(n) > 40
		for i := range len(n) {
			bad = bad || n[i] < '!' || n[i] > '~' || n[i] == '/'
		}
		if bad {
			return 0, api.BadPath
		}
	}
	if !there {
		return 0, api.OK
	}
	at, found := w.seen()[names[0]]
	if !found {
		return 0, api.NotFound
	}
	return at, api.OK
}

// step: whether one can be done.
func (w *words) step() api.Fault {
	if w.left == 0 {
		w.down = true
		return api.Down
	}
	if w.left > 0 {
		w.left--
	}
	w.steps++
	return api.OK
}

// change: the next state is as the last one, but for what do does.
func (w *words) change(do func(d map[string]int)) api.Fault {
	if f := w.step(); f != api.OK {
		return f
	}
	d := maps.Clone(w.seen())
	do(d)
	w.states = append(w.states, d)
	return api.OK
}

func (w *words) create(name string) api.Fault {
	if _, f := w.fault(false, name); f != api.OK {
		return f
	}
	if _, found := w.seen()[name]; found {
		return api.Exists
	}
	return w.change(func(d map[string]int) {
		w.bytes, w.safe = append(w.bytes, nil), append(w.safe, 0)
		d[name] = len(w.bytes) - 1
	})
}

func (w *words) append(name string, b []byte) api.Fault {
	at, f := w.fault(true, name)
	if f != api.OK {
		return f
	}
	if w.used()+len(b) > w.room {
		return api.NoSpace
	}
	if f = w.step(); f == api.OK {
		w.bytes[at] = append(w.bytes[at], b...)
	}
	return f
}

func (w *words) rename(from, to string) api.Fault {
	at, f := w.fault(true, from, to)
	if f != api.OK {
		return f
	}
	return w.change(func(d map[string]int) {
		delete(d, from)
		d[to] = at
	})
}

func (w *words) remove(name string) api.Fault {
	if _, f := w.fault(true, name); f != api.OK {
		return f
	}
	return w.change(func(d map[string]int) { delete(d, name) })
}

func (w *words) fsync(name string) api.Fault {
	at, f := w.fault(true, name)
	if f != api.OK {
		return f
	}
	if f = w.step(); f == api.OK {
		w.safe[at] = len(w.bytes[at])
	}
	return f
}

func (w *words) syncDir() api.Fault {
	if w.down {
		return api.Down
	}
	f := w.step()
	if f == api.OK {
		w.states = w.states[len(w.states)-1:]
	}
	return f
}

func (w *words) arm(n int) api.Fault {
	if w.down {
		return api.Down
	}
	if n < 0 {
		return api.BadArg
	}
	w.left = n
	return api.OK
}

func (w *words) up(names int, cuts []int) {
	names = max(0, min(names, len(w.states)-1))
	w.states = w.states[names : names+1]
	for i, name := range slices.Sorted(maps.Keys(w.seen())) {
		at, cut := w.seen()[name], 0
		if i < len(cuts) && cuts[i] > 0 {
			cut = cuts[i]
		}
		for len(w.bytes[at]) > w.safe[at]+cut {
			w.bytes[at] = w.bytes[at][:len(w.bytes[at])-1]
		}
		w.safe[at] = len(w.bytes[at])
	}
	w.down, w.left = false, -1
}

func (w *words) flip(name string, at int, by byte) api.Fault {
	n, f := w.fault(true, name)
	if f != api.OK {
		return f
	}
	if at < 0 || at >= len(w.bytes[n]) {
		return api.BadArg
	}
	w.bytes[n][at] ^= by
	return api.OK
}

// alike: whether all that can be asked of s is as w has it.
func alike(t *testing.T, s *simfs.FS, w *words) bool {
	t.Helper()
	var list []string
	if !w.down {
		list = slices.Sorted(maps.Keys(w.seen()))
	}
	good := slices.Equal(s.List(), list) && s.Used() == w.used() && s.Steps() == w.steps && s.Down() == w.down
	for _, name := range pool() {
		at, want := w.fault(true, name)
		b, f := s.Read(name)
		n, g := s.Size(name)
		good = good && f == want && g == want && n == len(b)
		if want == api.OK {
			good = good && bytes.Equal(b, w.bytes[at])
		}
	}
	if !good {
		t.Errorf("List %q, not %q; Used %d, not %d; Steps %d, not %d; Down %v, not %v", s.List(), list, s.Used(), w.used(), s.Steps(), w.steps, s.Down(), w.down)
	}
	return good
}

// pool: names, of which one is none and one is the longest.
func pool() []string {
	return []string{"a", "b", "c", "d", "e", "!", "~", strings.Repeat("n", 40), "x/y", "a", "b", "c"}
}

// both: one call of s and of w, drawn; what it was, and what each answered.
func both(r *rand.Rand, s *simfs.FS, w *words) (string, api.Fault, api.Fault) {
	name, other := pool()[r.Intn(12)], pool()[r.Intn(12)]
	switch r.Intn(24) {
	case 0, 1, 2, 3:
		return "Create", s.Create(name), w.create(name)
	case 4, 5, 6, 7, 8:
		b := make([]byte, r.Intn(12))
		r.Read(b)
		return "Append", s.Append(name, b), w.append(name, b)
	case 9, 10, 11, 12:
		return "Rename", s.Rename(name, other), w.rename(name, other)
	case 13, 14:
		return "Remove", s.Remove(name), w.remove(name)
	case 15, 16:
		return "Fsync", s.Fsync(name), w.fsync(name)
	case 17:
		return "SyncDir", s.SyncDir(), w.syncDir()
	case 18:
		n := r.Intn(20) - 2
		return "Arm", s.Arm(n), w.arm(n)
	case 19, 20:
		at, by := r.Intn(14)-2, byte(r.Intn(256))
		return "Flip", s.Flip(name, at, by), w.flip(name, at, by)
	default:
		names, cuts := drawUp(r)
		if !w.down && r.Intn(4) > 0 {
			return "nothing", api.OK, api.OK
		}
		f := s.Up(names, cuts)
		w.up(names, cuts)
		return "Up", f, api.OK
	}
}

func drawUp(r *rand.Rand) (int, []int) {
	cuts := make([]int, r.Intn(8))
	for i := range cuts {
		cuts[i] = r.Intn(12) - 2
	}
	return r.Intn(14) - 2, cuts
}

// Calls of every kind, one behind the other, with copies that go their own way.
func TestP602ToP606ByTheirWords(t *testing.T) {
	for seed := range int64(300) {
		r := rand.New(rand.NewSource(seed))
		room := r.Intn(60)
		s, w := fresh(t, room), newWords(room)
		for i := range 150 {
			what, got, want := both(r, s, w)
			if got != want || !alike(t, s, w) {
				t.Fatalf("seed %d, call %d: %s: fault %d, not %d", seed, i, what, got, want)
			}
			if r.Intn(5) > 0 {
				continue
			}
			// What is not seen yet, a crash shows.
			c, v := s.Copy(), w.copy()
			names, cuts := drawUp(r)
			ok(t, c.Up(names, cuts))
			v.up(names, cuts)
			if !alike(t, c, v) || !alike(t, s, w) {
				t.Fatalf("seed %d, call %d: %s, then Up(%d, %v) of a copy", seed, i, what, names, cuts)
			}
			if r.Intn(4) == 0 {
				s, w = s.Copy(), w.copy()
			}
		}
	}
}
