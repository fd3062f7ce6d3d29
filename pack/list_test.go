package pack_test

import (
	"slices"
	"strings"
	"testing"

	"hayloft/api"
	"hayloft/crc"
	"hayloft/pack"
	"hayloft/simfs"
)

// tells: IDs and Temps are just these.
func tells(t *testing.T, what string, s *simfs.FS, ids []int, temps []string) {
	t.Helper()
	if got := pack.IDs(s); !slices.Equal(got, ids) {
		t.Errorf("%s: IDs %v, not %v", what, got, ids)
	}
	if got := pack.Temps(s); !slices.Equal(got, temps) {
		t.Errorf("%s: Temps %q, not %q", what, got, temps)
	}
}

// cleans: Clean tells so many, and that fault.
func cleans(t *testing.T, what string, s *simfs.FS, n int, want api.Fault) {
	t.Helper()
	if got, f := pack.Clean(s); got != n || f != want {
		t.Errorf("%s: Clean: %d, fault %d, not %d and %d", what, got, f, n, want)
	}
}

// mixed: names of packs, temporary ones, and others that look like them.
func mixed() (names []string, ids []int, temps []string) {
	names = []string{
		"pack.10", "pack.9", "pack.100", "pack.2", "pack.1", "pack.999999", "pack.20",
		"tmp.2", "tmp.10", "tmp.", "tmp.index", "tmp.07", "tmp.x", "tmp.pack.3", "tmp.-1", "tmp.1000000", "tmp.tmp.",
		"pack.", "pack.0", "pack.03", "pack.1000000", "pack.+4", "pack.x", "pack", "packs.5", "xpack.6", "Pack.7", "pack.7.", "pack.8~",
		"index", "snaps", "state", "tmp", "Tmp.1", "xtmp.1", "tmpx", "TMP.2", "~tmp.3", "1",
	}
	ids = []int{1, 2, 9, 10, 20, 100, 999999}
	temps = []string{"tmp.", "tmp.-1", "tmp.07", "tmp.10", "tmp.1000000", "tmp.2", "tmp.index", "tmp.pack.3", "tmp.tmp.", "tmp.x"}
	return names, ids, temps
}

func TestP805IDsAndTemps(t *testing.T) {
	s := fresh(t, 1000)
	tells(t, "nothing", s, nil, nil)
	names, ids, temps := mixed()
	for _, name := range names {
		ok(t, s.Create(name))
	}
	steps := s.Steps()
	tells(t, "others beside them", s, ids, temps)
	ok(t, s.Arm(0))
	tells(t, "armed", s, ids, temps)
	if s.Steps() != steps || s.Down() {
		t.Error("IDs or Temps is a step")
	}
	is(t, "a step", s.SyncDir(), api.Down)
	tells(t, "down", s, nil, nil)
	ok(t, s.Up(len(names), nil))
	tells(t, "up again", s, ids, temps)
	ok(t, s.Up(0, nil))
	tells(t, "all is safe by then", s, ids, temps)
}

// Whether a pack can be loaded is not asked.
func TestP805IDsOfWhatIsSeen(t *testing.T) {
	s, c := fresh(t, 9000), crc.New()
	w := begin(t, s, c, 11)
	tells(t, "begun", s, nil, []string{"tmp.11"})
	add(t, w, some()...)
	ok(t, w.Seal())
	tells(t, "sealed", s, []int{11}, nil)
	ok(t, s.Flip("pack.11", 0, 1), s.Create("pack.3"))
	tells(t, "broken and empty", s, []int{3, 11}, nil)
	w = begin(t, s, c, 2)
	tells(t, "another begun", s, []int{3, 11}, []string{"tmp.2"})
	ok(t, w.Abort())
	tells(t, "given up", s, []int{3, 11}, nil)
	ok(t, pack.Drop(s, 11))
	tells(t, "dropped", s, []int{3}, nil)
}

func TestP805IDsInTheirOrder(t *testing.T) {
	s := fresh(t, 1000)
	var want []int
	for id := 1; id <= 999999; id = id*3 + 1 {
		want = append(want, id, id+1)
	}
	for _, id := range slices.Backward(want) {
		ok(t, s.Create(pack.Name(id)))
	}
	tells(t, "rising", s, want, nil)
}

func TestP805CleanWithNone(t *testing.T) {
	s := fresh(t, 1000)
	cleans(t, "nothing", s, 0, api.OK)
	ok(t, s.Create("pack.1"), s.Create("tmp"), s.Create("index"))
	steps := s.Steps()
	ok(t, s.Arm(0))
	cleans(t, "others, and armed", s, 0, api.OK)
	sees(t, "others", s, "index", "pack.1", "tmp")
	if s.Steps() != steps || s.Down() {
		t.Error("SyncDir is done for none")
	}
	ok(t, s.Up(0, nil))
	sees(t, "none of them was made safe", s)
}

func TestP805CleanWithOne(t *testing.T) {
	s := fresh(t, 1000)
	safeFile(t, s, "tmp.index", []byte("abc"))
	safeFile(t, s, "index", []byte("def"))
	steps := s.Steps()
	cleans(t, "one", s, 1, api.OK)
	sees(t, "one", s, "index")
	if s.Steps() != steps+2 {
		t.Errorf("%d steps", s.Steps()-steps)
	}
	cleans(t, "none is left", s, 0, api.OK)
	ok(t, s.Up(0, nil))
	sees(t, "behind a crash", s, "index")
}

func TestP805CleanWithSeveral(t *testing.T) {
	s := fresh(t, 1000)
	names, ids, temps := mixed()
	for _, name := range names {
		ok(t, s.Create(name))
	}
	ok(t, s.SyncDir())
	steps := s.Steps()
	cleans(t, "several", s, len(temps), api.OK)
	if s.Steps() != steps+int64(len(temps))+1 {
		t.Errorf("%d steps", s.Steps()-steps)
	}
	ok(t, s.Up(0, nil))
	tells(t, "behind a crash", s, ids, nil)
	left := slices.DeleteFunc(slices.Clone(names), func(x string) bool { return strings.HasPrefix(x, "tmp.") })
	slices.Sort(left)
	sees(t, "all others", s, left...)
}

// The disk goes down ahead of each Remove, and ahead of SyncDir.
func TestP805CleanThatFails(t *testing.T) {
	all := []string{"tmp.1", "tmp.10", "tmp.2"}
	for steps := range len(all) + 1 {
		s := fresh(t, 1000)
		ok(t, s.Create("pack.5"))
		for _, name := range all {
			safeFile(t, s, name, []byte(name))
		}
		ok(t, s.Arm(steps))
		cleans(t, "down within", s, steps, api.Down)
		if !s.Down() {
			t.Fatalf("%d steps: it is up", steps)
		}
		cleans(t, "nothing is seen while it is down", s, 0, api.OK)
		done, none := s.Copy(), s
		ok(t, done.Up(9, nil), none.Up(0, nil))
		tells(t, "all that was done survives", done, []int{5}, all[steps:])
		tells(t, "nothing of it does", none, []int{5}, all)
		cleans(t, "the rest", done, len(all)-steps, api.OK)
		cleans(t, "all anew", none, len(all), api.OK)
		sees(t, "the rest", done, "pack.5")
		sees(t, "all anew", none, "pack.5")
	}
}

// A writer whose file was cleaned away can't go on.
func TestP805CleanUnderAWriter(t *testing.T) {
	s := fresh(t, 1000)
	w := begin(t, s, crc.New(), 3)
	add(t, w, record(1, 1))
	cleans(t, "begun", s, 1, api.OK)
	notAdded(t, "cleaned away", w, record(1, 1), api.NotFound)
	is(t, "cleaned away", w.Seal(), api.NotFound)
	isClosed(t, "cleaned away", w)
}

func TestP805Drop(t *testing.T) {
	s := fresh(t, 9000)
	sealedPack(t, s, 1, some()...)
	sealedPack(t, s, 10, some()...)
	sealedPack(t, s, 999999, some()...)
	ok(t, s.Create("pack.010"), s.Create("tmp.10"))
	steps := s.Steps()
	ok(t, pack.Drop(s, 10))
	if s.Steps() != steps+2 {
		t.Errorf("%d steps", s.Steps()-steps)
	}
	sees(t, "dropped", s, "pack.010", "pack.1", "pack.999999", "tmp.10")
	notLoaded(t, "dropped", s, 10, api.NotFound)
	is(t, "twice", pack.Drop(s, 10), api.NotFound)
	ok(t, s.Up(0, nil))
	sees(t, "behind a crash", s, "pack.010", "pack.1", "pack.999999", "tmp.10")
	has(t, "another one", s, 1, some()...)
	ok(t, pack.Drop(s, 999999), pack.Drop(s, 1))
	tells(t, "all dropped", s, nil, []string{"tmp.10"})
}

func TestP805DropOfNoIDAndOfNoPack(t *testing.T) {
	s := fresh(t, 9000)
	sealedPack(t, s, 1, some()...)
	ok(t, s.Create("tmp.2"), s.Create("pack.0"), s.Create("pack.1000000"), s.Create("pack.-1"))
	steps, names := s.Steps(), s.List()
	for _, id := range noIDs() {
		is(t, "no id", pack.Drop(s, id), api.BadArg)
	}
	for _, id := range []int{2, 3, 11, 999999} {
		is(t, "no pack", pack.Drop(s, id), api.NotFound)
	}
	if s.Steps() != steps || !slices.Equal(s.List(), names) {
		t.Error("something was done")
	}
	ok(t, s.Arm(0))
	is(t, "no id, and armed", pack.Drop(s, 0), api.BadArg)
	is(t, "no pack, and armed", pack.Drop(s, 2), api.NotFound)
	if s.Down() {
		t.Error("it is down")
	}
	is(t, "a step", s.SyncDir(), api.Down)
	is(t, "no id, and down", pack.Drop(s, 0), api.BadArg)
	is(t, "no pack, and down", pack.Drop(s, 2), api.Down)
	is(t, "down", pack.Drop(s, 1), api.Down)
	ok(t, s.Up(0, nil))
	has(t, "up again", s, 1, some()...)
}

func TestP805DropThatFails(t *testing.T) {
	for steps := range 2 {
		s := fresh(t, 9000)
		sealedPack(t, s, 1, some()...)
		ok(t, s.Arm(steps))
		is(t, "down within", pack.Drop(s, 1), api.Down)
		done, none := s.Copy(), s
		ok(t, done.Up(9, nil), none.Up(0, nil))
		has(t, "nothing of it survives", none, 1, some()...)
		if steps == 0 {
			has(t, "nothing was done", done, 1, some()...)
		} else {
			sees(t, "all that was done survives", done)
		}
	}
}
