package shelf_test

import (
	"slices"
	"testing"

	"hayloft/api"
	"hayloft/frame"
	"hayloft/pack"
	"hayloft/shelf"
)

// needs: Need tells so many packs and bytes, or a fault and neither.
func needs(t *testing.T, what string, l []frame.Record, packs, bytes int, want api.Fault) {
	t.Helper()
	p, b, f := shelf.Need(l)
	if p != packs || b != bytes || f != want {
		t.Errorf("%s: Need: %d packs, %d bytes, fault %d, not %d, %d, %d", what, p, b, f, packs, bytes, want)
	}
}

// deals: lists of records, how many packs they take, and how many each has.
func deals() map[string]struct {
	l    []frame.Record
	each []int
} {
	return map[string]struct {
		l    []frame.Record
		each []int
	}{
		"one":                            {records(7), []int{1}},
		"one without a byte":             {records(0), []int{1}},
		"the greatest one":               {records(5000), []int{1}},
		"some":                           {records(1, 0, 300, 2), []int{4}},
		"just a pack":                    {records(5000, 5000, 1853), []int{3}},
		"a byte more":                    {records(5000, 5000, 1854), []int{2, 1}},
		"a byte more, in the first":      {records(1854, 5000, 5000), []int{2, 1}},
		"just a pack, and one":           {records(5000, 5000, 1853, 0), []int{3, 1}},
		"just two packs":                 {records(5000, 5000, 1853, 1853, 5000, 5000), []int{3, 3}},
		"none goes back to what is open": {records(5000, 5000, 5000, 1, 5000, 1), []int{2, 4}},
		"great ones":                     {records(5000, 5000, 5000, 5000, 5000), []int{2, 2, 1}},
		"many, just a pack":              {slices.Repeat(records(11), 200), []int{200}},
		"many, and one":                  {slices.Repeat(records(11), 201), []int{200, 1}},
		"very many":                      {slices.Repeat(records(51), 601), []int{120, 120, 120, 120, 120, 1}},
	}
}

func size(l ...frame.Record) int {
	n := 0
	for _, r := range l {
		n += 49 + len(r.Body)
	}
	return n
}

func TestP902Need(t *testing.T) {
	needs(t, "nothing", nil, 0, 0, api.OK)
	needs(t, "nothing", []frame.Record{}, 0, 0, api.OK)
	for what, x := range deals() {
		needs(t, what, x.l, len(x.each), size(x.l...), api.OK)
	}
	needs(t, "more than a disk has", slices.Repeat(records(5000), 1001), 501, 1001*5049, api.OK)
}

func TestP902NeedOfWrongOnes(t *testing.T) {
	for _, r := range wrongOnes() {
		needs(t, "alone", []frame.Record{r}, 0, 0, api.BadArg)
		needs(t, "first", append([]frame.Record{r}, records(1, 2)...), 0, 0, api.BadArg)
		needs(t, "last", append(records(5000, 5000, 5000), r), 0, 0, api.BadArg)
	}
	needs(t, "all of them", wrongOnes(), 0, 0, api.BadArg)
}

func TestP902LayNothing(t *testing.T) {
	s := fresh(t, 1000)
	h := open(t, s)
	for _, l := range [][]frame.Record{nil, {}} {
		if w, f := h.Lay(l); len(w) != 0 || f != api.OK {
			t.Errorf("%v, fault %d", w, f)
		}
	}
	counts(t, "steps", int(s.Steps()), 0)
	stands(t, "no pack", h, 1)
	sees(t, "no pack", s)
	goesDown(t, s)
	lays(t, "while it is down", h)
}

func TestP902Lay(t *testing.T) {
	for what, x := range deals() {
		s := fresh(t, api.MaxDisk)
		ok(t, s.Create("pack.4"), s.Create("index"))
		h := open(t, s)
		steps := s.Steps()
		places := lays(t, what, h, x.l...)
		reads(t, what, h, places, x.l...)
		// Each pack is begun, each record added, and each seal has three steps.
		counts(t, what+": steps", int(s.Steps()-steps), len(x.l)+4*len(x.each))
		names, from := []string{"index", "pack.4"}, 0
		for i, n := range x.each {
			holds(t, what, h, s, 5+i, x.l[from:from+n]...)
			names = append(names, pack.Name(5+i))
			from += n
		}
		slices.Sort(names)
		sees(t, what, s, names...)
		counts(t, what+": Next", h.Next(), 5+len(x.each))
		counts(t, what+": bytes", h.Bytes(), size(x.l...))
		ok(t, s.Up(0, nil))
		sees(t, what+", behind a crash", s, names...)
		reads(t, what+", behind a crash", open(t, s), places, x.l...)
	}
}

// Records that are alike are laid as they come: shelves know of no names.
func TestP902LayTheSameTwice(t *testing.T) {
	s := fresh(t, 9000)
	h := open(t, s)
	r := record(3, 30)
	first := lays(t, "twice in one", h, r, r)
	second := lays(t, "once more", h, r)
	reads(t, "all", h, append(first, second...), r, r, r)
	stands(t, "two packs", h, 3, 1, 2)
}

func TestP902LayWrongOnes(t *testing.T) {
	s := fresh(t, 50000)
	h := open(t, s)
	lays(t, "a right one", h, records(1)...)
	steps := s.Steps()
	for _, r := range wrongOnes() {
		notLaid(t, "alone", h, []frame.Record{r}, api.BadArg)
		notLaid(t, "first", h, append([]frame.Record{r}, records(1, 2)...), api.BadArg)
		notLaid(t, "behind two packs", h, append(records(5000, 5000, 5000), r), api.BadArg)
	}
	counts(t, "steps", int(s.Steps()), int(steps))
	stands(t, "as it was", h, 2, 1)
	goesDown(t, s)
	notLaid(t, "while it is down", h, wrongOnes(), api.BadArg)
}

// All packs that are needed have an id, or none is begun.
func TestP902LayUpToTheLastID(t *testing.T) {
	two, three := records(5000, 5000, 5000), records(5000, 5000, 5000, 5000, 5000)
	s := fresh(t, api.MaxDisk)
	ok(t, s.Create("pack.999997"))
	h := open(t, s)
	steps := s.Steps()
	notLaid(t, "three, and two are left", h, three, api.TooLarge)
	notLaid(t, "three, and one is not right", h, append(three, record(0, 0)), api.BadArg)
	counts(t, "steps", int(s.Steps()), int(steps))
	stands(t, "none is begun", h, 999998, 999997)
	c := s.Copy()
	other := open(t, c)
	lays(t, "two, and two are left", h, two...)
	stands(t, "none is left", h, 1000000, 999997, 999998, 999999)
	holds(t, "the last one", h, s, 999999, two[2])

	lays(t, "one, and two are left", other, two[0])
	notLaid(t, "two, and one is left", other, two, api.TooLarge)
	lays(t, "one, and one is left", other, two[0])
	notLaid(t, "one, and none is left", other, two[:1], api.TooLarge)
	notLaid(t, "not right, and none is left", other, wrongOnes(), api.BadArg)
	lays(t, "nothing, and none is left", other)
	drops(t, "the last one", other, 1, api.OK, 999999)
	stands(t, "it was begun here", other, 1000000, 999997, 999998)
	notLaid(t, "it was begun here", other, two[:1], api.TooLarge)
	lays(t, "not by another shelf", open(t, c), two[0])
}

// The disk is full within the first pack, within the second, or between them.
func TestP902LayWithNoRoom(t *testing.T) {
	l := records(5000, 5000, 1000, 3000, 100)
	for _, x := range []struct {
		room   int
		sealed []int
	}{
		{0, nil}, {5048, nil}, {5049, nil}, {11146, nil},
		{11147, []int{1}}, {11148, []int{1}}, {14195, []int{1}}, {14196, []int{1}}, {14344, []int{1}},
		{14345, []int{1, 2}}, {20000, []int{1, 2}},
	} {
		s := fresh(t, x.room)
		h := open(t, s)
		if x.room >= 14345 {
			lays(t, "room for all", h, l...)
		} else {
			notLaid(t, "no room", h, l, api.NoSpace)
			stands(t, "the one that failed was begun", h, len(x.sealed)+2, x.sealed...)
		}
		if len(pack.Temps(s)) != 0 {
			t.Errorf("room %d: %q is left", x.room, pack.Temps(s))
		}
		ok(t, s.Up(0, nil))
		packs, _ := parts(1, l)
		for _, id := range x.sealed {
			holds(t, "it stays", h, s, id, packs[id-1]...)
		}
	}
}

// What a Lay that failed began does not take room away.
func TestP902LayAnewBehindNoRoom(t *testing.T) {
	s := fresh(t, 500)
	h := open(t, s)
	for range 5 {
		notLaid(t, "no room", h, records(100, 100, 300), api.NoSpace)
		counts(t, "used", s.Used(), 0)
	}
	places := lays(t, "room for less", h, records(100, 100, 100)...)
	reads(t, "room for less", h, places, records(100, 100, 100)...)
	stands(t, "behind five that failed", h, 7, 6)
}

// The first fault is told, though the file can't be removed behind it, since it goes down then.
func TestP902LayWhereNothingCanBeRemoved(t *testing.T) {
	s := fresh(t, 100)
	h := open(t, s)
	ok(t, s.Arm(2))
	notLaid(t, "no room, and then down", h, records(10, 300), api.NoSpace)
	if !s.Down() {
		t.Error("removing it is no step")
	}
	ok(t, s.Up(1, []int{59}))
	sees(t, "it was not possible", s, "tmp.1")
	stands(t, "begun here", h, 2)
	h = open(t, s)
	sees(t, "opened anew", s)
	lays(t, "opened anew", h, records(10)...)
}

// Begin fails in the first pack, or in one behind it.
func TestP902LayWhereBeginFails(t *testing.T) {
	l := records(5000, 5000, 5000, 5000, 5000)
	packs, _ := parts(1, l)
	for id := 1; id <= 3; id++ {
		s := fresh(t, api.MaxDisk)
		h := open(t, s)
		ok(t, s.Create(pack.Temp(id)), s.Append(pack.Temp(id), []byte("another's")))
		notLaid(t, "something has its name", h, l, api.Exists)
		counts(t, "Next", h.Next(), id)
		for k := 1; k < id; k++ {
			holds(t, "sealed ahead", h, s, k, packs[k-1]...)
		}
		if b, f := s.Read(pack.Temp(id)); f != api.OK || string(b) != "another's" {
			t.Errorf("another's file: %q, fault %d", b, f)
		}
		ok(t, s.Remove(pack.Temp(id)))
		lays(t, "from there on", h, l...)
	}
}

// The disk goes down at each step: which packs stay, what is told, and what can be laid then.
func TestP902LayWhileItGoesDown(t *testing.T) {
	l := records(5000, 5000, 1853, 5000, 0, 4000, 40)
	packs, _ := parts(1, l)
	ends := []int{0} // how many steps there are up to the end of each pack
	for i, p := range packs {
		ends = append(ends, ends[i]+len(p)+4)
	}
	for steps := range ends[len(packs)] {
		s := fresh(t, api.MaxDisk)
		h := open(t, s)
		ok(t, s.Arm(steps))
		notLaid(t, "down within", h, l, api.Down)
		if !s.Down() || int(s.Steps()) != steps {
			t.Fatalf("%d steps: down %v, %d steps", steps, s.Down(), s.Steps())
		}
		stays := 0
		for ends[stays+1] <= steps {
			stays++
		}
		begun := stays
		if steps > ends[stays] {
			begun++
		}
		stands(t, "down", h, begun+1)
		ok(t, s.Up(0, nil))
		counts(t, "packs that stay", len(h.IDs()), stays)
		for id := 1; id <= stays; id++ {
			holds(t, "it stays", h, s, id, packs[id-1]...)
		}
		counts(t, "Next", h.Next(), begun+1)
		places := lays(t, "anew", h, l...)
		reads(t, "anew", h, places, l...)
		if t.Failed() {
			t.Fatalf("%d steps", steps)
		}
	}
}
