package restore_test

import (
	"strings"
	"testing"

	"hayloft/api"
	"hayloft/ingest"
)

func TestP1602File(t *testing.T) {
	for what, data := range sizes() {
		for where, at := range shapes(t) {
			o := empty(t)
			h, f := ingest.File(o, []byte(data))
			ok(t, f)
			files(t, what+", "+where, at(o), h, data)
		}
	}
}

func TestP1602ChunksInOrder(t *testing.T) {
	o := empty(t)
	a, b, c := chunk(t, o, "one"), chunk(t, o, "two, "), chunk(t, o, "3")
	files(t, "no byte", o, fileOf(t, o, 0), "")
	files(t, "one chunk", o, fileOf(t, o, 3, a), "one")
	files(t, "in order", o, fileOf(t, o, 9, a, b, c), "onetwo, 3")
	files(t, "another order", o, fileOf(t, o, 9, c, b, a), "3two, one")
	files(t, "one twice", o, fileOf(t, o, 7, a, c, a), "one3one")
	files(t, "a byte a chunk", o, fileOf(t, o, 5, c, c, c, c, c), "33333")
	most := fileOf(t, o, 2000, chunk(t, o, filled(7, 2000)))
	files(t, "one chunk of all", o, most, filled(7, 2000))
}

func TestP1602NoStore(t *testing.T) {
	for what, o := range nobody() {
		noFile(t, what, o, api.Hash{}, api.Nil)
		noFile(t, what, o, gone(1), api.Nil)
	}
}

func TestP1602NotThere(t *testing.T) {
	o := empty(t)
	noFile(t, "an empty store", o, api.Hash{}, api.NotFound)
	small(t, o, "x")
	dirOf(t, o, isFile("a", gone(1)))
	noFile(t, "none", o, gone(1), api.NotFound)
	flush(t, o)
	noFile(t, "none, flushed", o, gone(1), api.NotFound)
}

func TestP1602NoFile(t *testing.T) {
	for what, x := range notFiles() {
		for where, at := range shapes(t) {
			o := empty(t)
			h := put(t, o, x)
			noFile(t, what+", "+where, at(o), h, api.Corrupt)
		}
	}
	o := empty(t)
	noFile(t, "spoilt", o, spoilt(t, o, 2, "\x03\x00\x06\x01\x00\x00\x03\x00\x00"), api.Corrupt)
}

func TestP1602AnotherSize(t *testing.T) {
	o := empty(t)
	x, big := chunk(t, o, "12345"), chunk(t, o, filled(1, 4096))
	for _, n := range []int{1, 2, 4, 6, 7, 10, 1999, 2000} {
		noFile(t, "of 5 bytes", o, fileOf(t, o, n, x), api.Corrupt)
	}
	for _, n := range []int{2, 5, 9, 11, 15} {
		noFile(t, "of 10 bytes", o, fileOf(t, o, n, x, x), api.Corrupt)
	}
	noFile(t, "of 4096", o, fileOf(t, o, 2000, big), api.Corrupt)
	noFile(t, "of 4096, by 256", o, fileOf(t, o, 4096%256+1, big), api.Corrupt)
	noFile(t, "of 2001", o, fileOf(t, o, 2000, chunk(t, o, filled(1, 2001))), api.Corrupt)
	noFile(t, "of 2000 and 1", o, fileOf(t, o, 2000, chunk(t, o, filled(1, 2000)), chunk(t, o, "x")), api.Corrupt)
}

func TestP1602NoChunk(t *testing.T) {
	o := empty(t)
	x := chunk(t, o, "x")
	kinds := map[string]api.Hash{
		"a file":           small(t, o, "y"),
		"an empty file":    fileOf(t, o, 0),
		"a directory":      dirOf(t, o),
		"no byte":          object(t, o, 1, ""),
		"4097 bytes":       object(t, o, 1, filled(1, 4097)),
		"5000 bytes":       object(t, o, 1, filled(1, 5000)),
		"a kind 4":         object(t, o, 4, "x"),
		"a kind 9":         object(t, o, 9, "x"),
		"spoilt":           spoilt(t, o, 1, "turned"),
		"a file of nobody": object(t, o, 2, "x"),
	}
	for what, h := range kinds {
		noFile(t, what, o, fileOf(t, o, 1, h), api.Corrupt)
		noFile(t, what+", behind a chunk", o, fileOf(t, o, 2, x, h), api.Corrupt)
		noFile(t, what+", ahead of one", o, fileOf(t, o, 2, h, x), api.Corrupt)
	}
	// of as many bytes as Size says, and yet no chunk
	noFile(t, "a kind that fits", o, fileOf(t, o, 1, object(t, o, 5, "z")), api.Corrupt)
	noFile(t, "no byte between", o, fileOf(t, o, 3, x, object(t, o, 1, ""), x), api.Corrupt)
}

func TestP1602MissingChunk(t *testing.T) {
	o := empty(t)
	x := chunk(t, o, "x")
	noFile(t, "the only one", o, fileOf(t, o, 1, gone(1)), api.Missing)
	noFile(t, "the first", o, fileOf(t, o, 2, gone(1), x), api.Missing)
	noFile(t, "the last", o, fileOf(t, o, 2, x, gone(1)), api.Missing)
	noFile(t, "the zero hash", o, fileOf(t, o, 2, x, api.Hash{}), api.Missing)
	l := append(strings.Split(strings.Repeat("x", 141), ""), "")
	all := make([]api.Hash, len(l))
	for i := range all {
		all[i] = x
	}
	files(t, "142 chunks", o, fileOf(t, o, 142, all...), strings.Repeat("x", 142))
	all[141] = gone(1)
	noFile(t, "the last of 142", o, fileOf(t, o, 142, all...), api.Missing)
}

// Chunks are got in order, and their bytes counted behind that.
func TestP1602FirstFault(t *testing.T) {
	o := empty(t)
	x, big := chunk(t, o, "x"), chunk(t, o, filled(1, 4096))
	bad, none, wrong := spoilt(t, o, 1, "turned"), gone(1), dirOf(t, o)
	noFile(t, "missing, spoilt", o, fileOf(t, o, 2, none, bad), api.Missing)
	noFile(t, "spoilt, missing", o, fileOf(t, o, 2, bad, none), api.Corrupt)
	noFile(t, "missing, wrong", o, fileOf(t, o, 3, x, none, wrong), api.Missing)
	noFile(t, "wrong, missing", o, fileOf(t, o, 3, x, wrong, none), api.Corrupt)
	noFile(t, "too many bytes, then missing", o, fileOf(t, o, 5, big, none), api.Missing)
	noFile(t, "very many bytes, then missing", o, fileOf(t, o, 5, big, big, big, big, none), api.Missing)
	noFile(t, "too few bytes, and missing", o, fileOf(t, o, 2000, x, none), api.Missing)
}

func TestP1602Down(t *testing.T) {
	o := empty(t)
	packed := chunk(t, o, "packed")
	old := small(t, o, "old")
	flush(t, o)
	x, wrong := chunk(t, o, "waits"), dirOf(t, o)
	cases := map[string]struct {
		want api.Fault
		h    api.Hash
	}{
		"a chunk":            {api.Down, fileOf(t, o, 6, packed)},
		"behind what waits":  {api.Down, fileOf(t, o, 11, x, packed)},
		"down, missing":      {api.Down, fileOf(t, o, 6, packed, gone(1))},
		"missing, down":      {api.Missing, fileOf(t, o, 6, gone(1), packed)},
		"a wrong kind, down": {api.Corrupt, fileOf(t, o, 6, wrong, packed)},
		"down, a wrong kind": {api.Down, fileOf(t, o, 6, packed, wrong)},
		"down, another size": {api.Down, fileOf(t, o, 4, x, packed, x)},
		"another size":       {api.Corrupt, fileOf(t, o, 6, x)},
		"the file":           {api.Down, old},
		"no file":            {api.NotFound, gone(1)},
	}
	all := fileOf(t, o, 10, x, x)
	goesDown(t, o.FS())
	files(t, "all waits", o, all, "waitswaits")
	for what, c := range cases {
		noFile(t, what, o, c.h, c.want)
	}
}
