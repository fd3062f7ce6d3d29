package pack_test

import (
	"math"
	"regexp"
	"strconv"
	"strings"
	"testing"

	"hayloft/pack"
)

// noIDs: numbers that are none.
func noIDs() []int {
	return []int{0, -1, -2, -7, -999999, -1000000, 1000000, 1000001, 9999999, 1 << 32, 1<<32 + 1, math.MaxInt, math.MaxInt - 1, math.MinInt, math.MinInt + 1}
}

// The chapter's example.
func TestP801Example(t *testing.T) {
	if n := pack.Name(7); n != "pack.7" {
		t.Errorf("Name(7): %q", n)
	}
	if id, ok := pack.ID("pack.07"); id != 0 || ok {
		t.Errorf("ID of pack.07: %d, %v", id, ok)
	}
}

func TestP801Names(t *testing.T) {
	for id, want := range map[int]string{1: "1", 2: "2", 9: "9", 10: "10", 12: "12", 100: "100", 65536: "65536", 99999: "99999", 100000: "100000", 999998: "999998", 999999: "999999"} {
		if n := pack.Name(id); n != "pack."+want {
			t.Errorf("Name(%d): %q", id, n)
		}
		if n := pack.Temp(id); n != "tmp."+want {
			t.Errorf("Temp(%d): %q", id, n)
		}
		if got, ok := pack.ID("pack." + want); got != id || !ok {
			t.Errorf("ID of pack.%s: %d, %v", want, got, ok)
		}
	}
}

func TestP801NoIDs(t *testing.T) {
	for _, id := range noIDs() {
		if pack.Name(id) != "" || pack.Temp(id) != "" {
			t.Errorf("%d: Name %q, Temp %q", id, pack.Name(id), pack.Temp(id))
		}
		for _, name := range []string{"pack." + strconv.Itoa(id), "pack." + strconv.FormatUint(uint64(id), 10)} {
			if got, ok := pack.ID(name); got != 0 || ok {
				t.Errorf("ID of %q: %d, %v", name, got, ok)
			}
		}
	}
}

// Each id comes back from its name, and from no other name.
func TestP801EachID(t *testing.T) {
	for id := 1; id <= 999999; id++ {
		if got, ok := pack.ID(pack.Name(id)); got != id || !ok {
			t.Fatalf("ID of Name(%d): %d, %v", id, got, ok)
		}
	}
	for id := 1; id <= 999999; id += 997 {
		digits := strconv.Itoa(id)
		if n := pack.Name(id); n != "pack."+digits {
			t.Fatalf("Name(%d): %q", id, n)
		}
		for _, name := range []string{pack.Temp(id), "pack.0" + digits, "pack.+" + digits, "pack.-" + digits, "pack. " + digits, "pack." + digits + " ", digits, "pack" + digits} {
			if got, ok := pack.ID(name); got != 0 || ok {
				t.Fatalf("ID of %q: %d, %v", name, got, ok)
			}
		}
	}
}

func TestP801NoNames(t *testing.T) {
	for _, name := range []string{
		"", " ", ".", "7", "07", ".7", "p", "pack", "pack.", "pack7", "pack..7", "pack.pack.7", "pack.0", "pack.00", "pack.07", "pack.007", "pack.0000007",
		"pack.000001", "pack.0999999", "pack.1000000", "pack.9999999", "pack.0000000", "pack.01000000",
		"pack.+7", "pack.-7", "pack.-0", "pack.+0", "pack.+", "pack.-", "pack.--7", "pack.7-", "pack.7+",
		"pack. 7", "pack.7 ", " pack.7", "pack .7", "pack.\t7", "pack.7\n", "pack.7\x00", "pack.\x007", "pack.1 2",
		"pack.a", "pack.7a", "pack.a7", "pack.0x7", "pack.x7", "pack.0b1", "pack.0o7", "pack.1_2", "pack.1_000", "pack._1", "pack.1e2", "pack.7.", "pack.7.0", "pack.1,000",
		"pack.٧", "pack.７", "pack.²", "pack.7\xff", "pack.\xff", "pack./", "pack.:", "pack.9:", "pack./9",
		"Pack.7", "PACK.7", "pack,7", "pac.7", "packs.7", "xpack.7", "tmp.7", "tmp.", "tmp.pack.7", "tmp.index", "index", "snaps", "state", "pack.tmp.7",
		"pack.4294967296", "pack.4294967297", "pack.9223372036854775807", "pack.9223372036854775808", "pack.18446744073709551615", "pack.18446744073709551616", "pack.18446744073709551617", "pack.-9223372036854775808",
		"pack." + strings.Repeat("1", 7), "pack." + strings.Repeat("1", 40), "pack." + strings.Repeat("0", 100000) + "1", "pack." + strings.Repeat("9", 100000),
	} {
		if got, ok := pack.ID(name); got != 0 || ok {
			t.Errorf("ID of %q: %d, %v", name, got, ok)
		}
	}
}

// All short texts behind the prefix, held against the chapter's words.
func TestP801ShortTexts(t *testing.T) {
	words := regexp.MustCompile(`^pack\.[1-9][0-9]{0,5}$`)
	texts := []string{""}
	for range 5 {
		for _, x := range texts {
			for _, c := range "0159+- _.a" {
				name := "pack." + x + string(c)
				id, ok := pack.ID(name)
				if ok != words.MatchString(name) || ok && pack.Name(id) != name || !ok && id != 0 {
					t.Fatalf("ID of %q: %d, %v", name, id, ok)
				}
			}
		}
		var longer []string
		for _, x := range texts {
			for _, c := range "0159+- _.a" {
				longer = append(longer, x+string(c))
			}
		}
		texts = longer
		if len(texts) > 20000 {
			break
		}
	}
}

func FuzzID(f *testing.F) {
	words := regexp.MustCompile(`\Apack\.[1-9][0-9]{0,5}\z`)
	for _, x := range []string{"pack.7", "pack.07", "pack.999999", "pack.1000000", "tmp.1", "pack.+1", ""} {
		f.Add(x)
	}
	f.Fuzz(func(t *testing.T, name string) {
		id, ok := pack.ID(name)
		if ok != words.MatchString(name) || ok && pack.Name(id) != name || !ok && id != 0 {
			t.Errorf("ID of %q: %d, %v", name, id, ok)
		}
	})
}
