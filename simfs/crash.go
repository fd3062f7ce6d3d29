package simfs

import (
	"maps"

	"hayloft/api"
)

// Fsync makes all bytes of the file safe.
func (s *FS) Fsync(name string) api.Fault {
	at, f := s.find(name)
	if f != api.OK {
		return f
	}
	return s.step(func() { at.safe = len(at.bytes) })
}

// SyncDir does all changes to the safe directory.
func (s *FS) SyncDir() api.Fault {
	if f := s.wrong(); f != api.OK {
		return f
	}
	return s.step(func() { s.settle(len(s.changes)) })
}

// Arm: so many further steps can be done; the next one finds it down.
func (s *FS) Arm(steps int) api.Fault {
	if f := s.wrong(); f != api.OK {
		return f
	}
	if steps < 0 {
		return api.BadArg
	}
	s.armed, s.left = true, steps
	return api.OK
}

// Down: whether it is down.
func (s *FS) Down() bool {
	return s != nil && s.down
}

// Up: it goes down, and is up again with what was safe, and with the first of what was not: so many changes of names, and of each file as many bytes as cuts says.
func (s *FS) Up(names int, cuts []int) api.Fault {
	if s == nil {
		return api.Nil
	}
	s.settle(min(max(names, 0), len(s.changes)))
	for i, name := range s.safe.names() {
		cut := 0
		if i < len(cuts) {
			cut = cuts[i]
		}
		s.safe[name].lose(cut)
	}
	s.seen = maps.Clone(s.safe)
	s.down, s.armed, s.left = false, false, 0
	return api.OK
}

// Steps: how many were done, ever.
func (s *FS) Steps() int64 {
	if s == nil {
		return 0
	}
	return s.steps.Load()
}

// step does what nothing is wrong with, unless it goes down here.
func (s *FS) step(do func()) api.Fault {
	if s.armed && s.left == 0 {
		s.down = true
		return api.Down
	}
	if s.armed {
		s.left--
	}
	s.steps.Add(1)
	do()
	return api.OK
}

// change is a step that is seen at once, and is safe once it is settled.
func (s *FS) change(c change) api.Fault {
	return s.step(func() {
		// Made no sooner than here, so that one that New did not make has them too.
		if s.seen == nil {
			s.seen, s.safe = make(directory), make(directory)
		}
		s.seen.do([]change{c})
		s.changes = append(s.changes, c)
	})
}

// settle does the first n changes to the safe directory, and forgets the others.
func (s *FS) settle(n int) {
	s.safe.do(s.changes[:n])
	s.changes = nil
}
