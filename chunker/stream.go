package chunker

import "hayloft/api"

// Stream: of bytes that come in parts. One that Open did not make is as good as none.
type Stream struct {
	knife  knife
	closed bool
}

// Open: a stream that is cut by the rule.
func Open(r Rule) (*Stream, api.Fault) {
	if !Right(r) {
		return nil, api.BadArg
	}
	return &Stream{knife: newKnife(r)}, api.OK
}

// Write: the chunks that are sure now that b came, whatever comes behind.
func (s *Stream) Write(b []byte) ([][]byte, api.Fault) {
	if f := s.fault(); f != api.OK {
		return nil, f
	}
	var l [][]byte
	s.knife.feed(b, s.over, func(chunk []byte) { l = append(l, chunk) })
	return l, api.OK
}

// Close: what is left, a chunk or nothing; the stream is over.
func (s *Stream) Close() ([]byte, api.Fault) {
	if f := s.fault(); f != api.OK {
		return nil, f
	}
	s.closed = true
	var left []byte
	s.knife.feed(nil, s.over, func(chunk []byte) { left = chunk })
	// Nothing is asked of it any more, but whether it is over.
	s.knife = knife{}
	return left, api.OK
}

// Left: how many bytes wait.
func (s *Stream) Left() int {
	if s == nil {
		return 0
	}
	return len(s.knife.wait)
}

// over: whether no byte comes any more.
func (s *Stream) over() bool { return s.closed }

// fault: why the stream takes no call.
func (s *Stream) fault() api.Fault {
	switch {
	case s == nil:
		return api.Nil
	case s.closed:
		return api.Closed
	case s.knife.Gear == nil:
		return api.Nil
	}
	return api.OK
}
