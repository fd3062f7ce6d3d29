package index_test

import (
	"bytes"
	"slices"
	"testing"

	"hayloft/api"
	"hayloft/crc"
	"hayloft/index"
	"hayloft/segment"
	"hayloft/simfs"
)

// before: file systems with and without a file "index", and with and without one of its temporary name, all safe.
func before(t *testing.T) []*simfs.FS {
	t.Helper()
	var l []*simfs.FS
	for _, old := range [][]byte{nil, {}, saved(), saved(rising(3)...), []byte("hay")} {
		for _, left := range [][]byte{nil, []byte("left")} {
			s := fresh(t, 5000)
			if old != nil {
				put(t, s, "index", old)
			}
			if left != nil {
				put(t, s, "tmp.index", left)
			}
			l = append(l, s)
		}
	}
	return l
}

// asItWas: the file has the bytes, or the new ones; nil: there is none.
func asItWas(t *testing.T, s *simfs.FS, old, other []byte) {
	t.Helper()
	got := file(s, "index")
	same := (got == nil) == (old == nil) && bytes.Equal(got, old)
	if !same && (got == nil || !bytes.Equal(got, other)) {
		t.Errorf("%d bytes, neither the %d old ones nor the %d new ones", len(got), len(old), len(other))
	}
}

// A crash at each step within a Save, with each number of names and bytes that survive.
func TestP1105EachCrashWithinSave(t *testing.T) {
	for i, first := range before(t) {
		for n := range 3 {
			l := rising(n)
			for steps := range 7 {
				for names := range 5 {
					for cut := range len(saved(l...)) + 2 {
						s := first.Copy()
						ok(t, s.Arm(steps))
						f := index.Save(s, crc.New(), l)
						if f != api.OK && f != api.Down {
							t.Fatalf("fault %d", f)
						}
						ok(t, s.Up(names, slices.Repeat([]int{cut}, 3)))
						asItWas(t, s, file(first, "index"), saved(l...))
						if f == api.OK && !bytes.Equal(file(s, "index"), saved(l...)) {
							t.Error("it was OK, and is not there")
						}
						is(t, "another Save", index.Save(s, crc.New(), rising(2)), api.OK)
						loads(t, "another Save", s, rising(2)...)
						if t.Failed() {
							t.Fatalf("before %d, %d entries, %d steps, %d names, %d bytes", i, n, steps, names, cut)
						}
					}
				}
			}
		}
	}
}

// One crash behind the other, with no Save between them that ends.
func TestP1105CrashBehindCrash(t *testing.T) {
	old := rising(3)
	for first := range 6 {
		for second := range 7 {
			for names := range 5 {
				for _, cut := range []int{0, 1, 60, 999} {
					s := fresh(t, 5000)
					put(t, s, "index", saved(old...))
					ok(t, s.Arm(first))
					index.Save(s, crc.New(), rising(1))
					ok(t, s.Up(names, []int{cut, cut}))
					ahead := file(s, "index")
					asItWas(t, s, saved(old...), saved(rising(1)...))
					ok(t, s.Arm(second))
					index.Save(s, crc.New(), rising(2))
					ok(t, s.Up(4-names, []int{cut, cut}))
					asItWas(t, s, ahead, saved(rising(2)...))
					if t.Failed() {
						t.Fatalf("%d and %d steps, %d names, %d bytes", first, second, names, cut)
					}
				}
			}
		}
	}
}

// A crash within a save of Add, Set or Open: another Open tells what the packs do.
func TestP1105CrashWithinAddSetAndOpen(t *testing.T) {
	first := fresh(t, 9000)
	h := shelved(t, first)
	_, _, f := index.Open(first, crc.New(), h)
	ok(t, f)
	all := lays(t, h, records(3, 1, 2))
	for steps := range 6 {
		for names := range 4 {
			for _, cut := range []int{0, 1, 7, 60, 999} {
				for what, do := range map[string]func(s *simfs.FS, x *index.Index) api.Fault{
					"Add": func(_ *simfs.FS, x *index.Index) api.Fault { return x.Add(all) },
					"Set": func(_ *simfs.FS, x *index.Index) api.Fault { return x.Set(all[:2]) },
					"Open": func(s *simfs.FS, _ *index.Index) api.Fault {
						_, _, f := index.Open(s, crc.New(), shelved(t, s))
						return f
					},
				} {
					s := first.Copy()
					x, _, f := index.Open(s, crc.New(), shelved(t, s))
					ok(t, f, index.Save(s, crc.New(), []segment.Entry{}), s.Arm(steps))
					f = do(s, x)
					if down := s.Down(); (f == api.Down) != down || down != (steps < 5) {
						t.Fatalf("%s: %d steps: fault %d, down %v", what, steps, f, down)
					}
					ok(t, s.Up(names, slices.Repeat([]int{cut}, 4)))
					opens(t, what, s, !bytes.Equal(file(s, "index"), saved(byName(all...)...)), byName(all...)...)
				}
			}
		}
	}
}
