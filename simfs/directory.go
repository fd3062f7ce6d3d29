package simfs

import (
	"bytes"
	"maps"
	"slices"
)

// file: bytes, the first so many of which are safe.
type file struct {
	bytes []byte
	safe  int
}

// lose: of its bytes that are not safe just the first ones, as many as cut says, are left; all are safe then.
func (f *file) lose(cut int) {
	kept := min(max(cut, 0), len(f.bytes)-f.safe)
	f.bytes = f.bytes[:f.safe+kept]
	f.safe = len(f.bytes)
}

func (f *file) copy() *file {
	return &file{bytes: bytes.Clone(f.bytes), safe: f.safe}
}

// directory: from names to files.
type directory map[string]*file

// names: all, rising.
func (d directory) names() []string {
	return slices.Sorted(maps.Keys(d))
}

// do does the changes, one behind the other.
func (d directory) do(l []change) {
	for _, c := range l {
		switch c.kind {
		case made:
			d[c.name] = c.file
		case removed:
			delete(d, c.name)
		case moved:
			f := d[c.name]
			delete(d, c.name) // ahead of the other, which may be the same name
			d[c.to] = f
		}
	}
}

// copy: the same names, with files of their own.
func (d directory) copy() directory {
	c := make(directory, len(d))
	for name, f := range d {
		c[name] = f.copy()
	}
	return c
}

// change: of a directory.
type change struct {
	kind int
	name string
	to   string // of moved alone
	file *file  // of made alone: a name that is moved takes the file along that it leads to, in whichever directory
}

const (
	made = iota
	removed
	moved
)

func (c change) copy() change {
	if c.file != nil {
		c.file = c.file.copy()
	}
	return c
}
