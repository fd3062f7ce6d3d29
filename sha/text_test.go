package sha_test

import (
	"bytes"
	"encoding/hex"
	"strings"
	"testing"

	"hayloft/api"
	"hayloft/sha"
)

// hashes: at the edges, and others.
func hashes() []api.Hash {
	l := []api.Hash{{}, {1}, {31: 1}, {0x80}, {31: 0x80}, api.Hash(bytes.Repeat([]byte{0xFF}, 32))}
	for i := 0; i < 20; i++ {
		l = append(l, api.Hash(some(int64(i), 32)))
	}
	return l
}

func TestP304TextHasSmallDigits(t *testing.T) {
	var h api.Hash
	for i := range h {
		h[i] = byte(i*8 + i/4)
	}
	want := "0008101821293139424a525a636b737b848c949ca5adb5bdc6ced6dee7eff7ff"
	if got := sha.Text(h); got != want {
		t.Errorf("%s, not %s", got, want)
	}
	for _, h := range hashes() {
		if got := sha.Text(h); got != hex.EncodeToString(h[:]) {
			t.Errorf("%s, not %x", got, h)
		}
	}
}

func TestP304ParseIsTextBackwards(t *testing.T) {
	for _, h := range hashes() {
		if got, f := sha.Parse(sha.Text(h)); f != api.OK || got != h {
			t.Errorf("%x: %x, %v", h, got, f)
		}
	}
	for i := 0; i < 256; i++ {
		for _, at := range []int{0, 15, 31} {
			var h api.Hash
			h[at] = byte(i)
			if got, f := sha.Parse(sha.Text(h)); f != api.OK || got != h {
				t.Errorf("%x: %x, %v", h, got, f)
			}
		}
	}
}

func malformed(t *testing.T, s string) {
	t.Helper()
	if h, f := sha.Parse(s); f != api.Malformed || h != (api.Hash{}) {
		t.Errorf("%q: %x, %v", s, h, f)
	}
}

func TestP304ParseOfAWrongLength(t *testing.T) {
	text := strings.Repeat("5a", 100)
	for n := 0; n <= len(text); n++ {
		if n != 64 {
			malformed(t, text[:n])
		}
	}
	right := text[:64]
	for _, s := range []string{right + "\n", " " + right, right + "\x00", "0x" + right, "0x" + right[2:], right[:63] + "\n"} {
		malformed(t, s)
	}
}

func TestP304ParseOfWrongSigns(t *testing.T) {
	right := sha.Text(api.Hash(some(1, 32)))
	for at := 0; at < 64; at++ {
		for c := 0; c < 256; c++ {
			s := right[:at] + string([]byte{byte(c)}) + right[at+1:]
			if strings.IndexByte("0123456789abcdef", byte(c)) < 0 {
				malformed(t, s)
			} else if got, f := sha.Parse(s); f != api.OK || sha.Text(got) != s {
				t.Errorf("%q: %x, %v", s, got, f)
			}
		}
	}
}

func TestP304ParseOfGreatLetters(t *testing.T) {
	right := strings.Repeat("ab", 32)
	malformed(t, strings.ToUpper(right))
	malformed(t, "A"+right[1:])
	malformed(t, right[:63]+"F")
}

// 64 signs that are more bytes, and 64 bytes that are fewer signs.
func TestP304ParseCountsBytes(t *testing.T) {
	malformed(t, strings.Repeat("a", 63)+"é")
	malformed(t, strings.Repeat("a", 62)+"é")
	malformed(t, strings.Repeat("٣", 32))
}

func TestP304Compare(t *testing.T) {
	low, high := api.Hash{5: 9}, api.Hash{5: 9}
	for _, c := range []struct {
		at   int
		a, b byte
	}{
		{0, 1, 2}, {31, 1, 2}, {0, 0x7F, 0x80}, {31, 0, 0xFF}, {16, 3, 4},
	} {
		x, y := low, high
		x[c.at], y[c.at] = c.a, c.b
		if sha.Compare(x, y) != -1 || sha.Compare(y, x) != 1 {
			t.Errorf("byte %d, %d and %d: %d, %d", c.at, c.a, c.b, sha.Compare(x, y), sha.Compare(y, x))
		}
		if sha.Compare(x, x) != 0 || sha.Compare(y, y) != 0 {
			t.Errorf("byte %d: not alike with itself", c.at)
		}
	}
	// the first byte that differs tells it, whatever follows
	if sha.Compare(api.Hash{0: 1, 31: 9}, api.Hash{0: 2}) != -1 || sha.Compare(api.Hash{0: 2}, api.Hash{0: 1, 31: 9}) != 1 {
		t.Error("a later byte tells it")
	}
	for _, x := range hashes() {
		for _, y := range hashes() {
			if got := sha.Compare(x, y); got != strings.Compare(sha.Text(x), sha.Text(y)) {
				t.Errorf("%x and %x: %d", x, y, got)
			}
		}
	}
}
