package pack

import (
	"strconv"
	"strings"

	"hayloft/simfs"
)

// maxID: the greatest id.
const maxID = 999999

// prefix: what all names of one sort begin with.
type prefix string

const (
	sealed prefix = "pack."
	begun  prefix = "tmp."
)

// Name: a pack's; "" of what is no id.
func Name(id int) string { return sealed.name(id) }

// Temp: a pack's temporary name, till it is sealed; "" of what is no id.
func Temp(id int) string { return begun.name(id) }

// ID: of a pack's name its id; false: it is none.
func ID(name string) (int, bool) { return sealed.id(name) }

func isID(id int) bool { return id >= 1 && id <= maxID }

func (p prefix) name(id int) string {
	if !isID(id) {
		return ""
	}
	return string(p) + strconv.Itoa(id)
}

// id: the one that has that name. Making the name anew tells all at once that could be wrong
// with it: signs, a 0 ahead, what is no id.
func (p prefix) id(name string) (int, bool) {
	digits, ok := strings.CutPrefix(name, string(p))
	if !ok {
		return 0, false
	}
	id, err := strconv.Atoi(digits)
	if err != nil || p.name(id) != name {
		return 0, false
	}
	return id, true
}

// own: the name, if it is of this sort, with an id behind the prefix or not.
func (p prefix) own(name string) (string, bool) {
	if !strings.HasPrefix(name, string(p)) {
		return "", false
	}
	return name, true
}

// pick: what is taken from the names that are seen, in their order.
func pick[T any](s *simfs.FS, take func(name string) (T, bool)) []T {
	var l []T
	for _, name := range s.List() {
		if x, ok := take(name); ok {
			l = append(l, x)
		}
	}
	return l
}
