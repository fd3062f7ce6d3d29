package index

import (
	"hayloft/api"
	"hayloft/crc"
	"hayloft/segment"
	"hayloft/simfs"
)

// Names of files: the list's, and that of one that is not whole yet.
const (
	fileName = "index"
	tempName = "tmp.index"
)

// Load: the entries that were saved last.
func Load(s *simfs.FS, t *crc.Table) ([]segment.Entry, api.Fault) {
	if s == nil || t == nil {
		return nil, api.Nil
	}
	b, f := s.Read(fileName)
	if f != api.OK {
		return nil, f
	}
	return segment.Get(t, b)
}

// Save: l is on the disk, safe, in place of what was saved ahead. BadArg: l is not right.
func Save(s *simfs.FS, t *crc.Table, l []segment.Entry) api.Fault {
	if s == nil {
		return api.Nil
	}
	b, f := segment.Put(t, l)
	if f != api.OK {
		return f
	}
	for _, do := range saving(s, b) {
		if f := do(); f != api.OK {
			return f
		}
	}
	return api.OK
}

// saving: what a save takes, in order. All bytes are safe ahead of the name, so that behind
// a crash the name leads to the old file or to the new one, and each is whole.
func saving(s *simfs.FS, b []byte) [6]func() api.Fault {
	return [6]func() api.Fault{
		func() api.Fault { return removeTemp(s) },
		func() api.Fault { return s.Create(tempName) },
		func() api.Fault { return s.Append(tempName, b) },
		func() api.Fault { return s.Fsync(tempName) },
		func() api.Fault { return s.Rename(tempName, fileName) },
		s.SyncDir,
	}
}

// removeTemp: what a save that did not end has left is gone, if there is such.
func removeTemp(s *simfs.FS) api.Fault {
	f := s.Remove(tempName)
	if f == api.NotFound {
		return api.OK
	}
	return f
}
