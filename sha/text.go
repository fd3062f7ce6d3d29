package sha

import (
	"bytes"
	"strings"

	"hayloft/api"
)

const digits = "0123456789abcdef"

// Text: 64 digits of base 16.
func Text(h api.Hash) string {
	var t strings.Builder
	for _, c := range h {
		t.WriteByte(digits[c>>4])
		t.WriteByte(digits[c&15])
	}
	return t.String()
}

// Parse: the hash whose text s is. Malformed: s is no hash's.
func Parse(s string) (api.Hash, api.Fault) {
	var h api.Hash
	if len(s) != 2*len(h) {
		return api.Hash{}, api.Malformed
	}
	for i := range len(s) {
		d := strings.IndexByte(digits, s[i])
		if d < 0 {
			return api.Hash{}, api.Malformed
		}
		h[i/2] = h[i/2]<<4 | byte(d)
	}
	return h, api.OK
}

// Compare: byte by byte: -1, 0, 1.
func Compare(a, b api.Hash) int {
	return bytes.Compare(a[:], b[:])
}
