package tlv

// read: the value whose form b begins with, and how many bytes that form has. What it
// answers is right: the length has two bytes, and the depth that is left is handed down.
func read(b []byte, deep int) (Value, int, bool) {
	if len(b) < headSize {
		return Value{}, 0, false
	}
	end := headSize + int(b[1])<<8 + int(b[2])
	if len(b) < end {
		return Value{}, 0, false
	}
	v, ok := readBody(int(b[0]), b[headSize:end], deep)
	if !ok {
		return Value{}, 0, false
	}
	return v, end, true
}

func readBody(tag int, b []byte, deep int) (Value, bool) {
	switch tag {
	case tagNumber:
		n, ok := readNumber(b)
		return Number(n), ok
	case tagBytes:
		return Bytes(b), true
	case tagList:
		l, ok := readList(b, deep)
		return Value{Tag: tagList, List: l}, ok
	}
	return Value{}, false
}

// readNumber refuses zeros ahead: else a number would have more forms than one.
func readNumber(b []byte) (uint64, bool) {
	if len(b) > 8 || len(b) > 0 && b[0] == 0 {
		return 0, false
	}
	n := uint64(0)
	for _, x := range b {
		n = n<<8 | uint64(x)
	}
	return n, true
}

func readList(b []byte, deep int) ([]Value, bool) {
	if deep == 0 {
		return nil, false
	}
	var l []Value
	for len(b) > 0 {
		v, n, ok := read(b, deep-1)
		if !ok {
			return nil, false
		}
		l = append(l, v)
		b = b[n:]
	}
	return l, true
}
