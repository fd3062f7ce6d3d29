package tree

import (
	"strings"

	"hayloft/api"
)

// Part: whether s can be a name in a path.
func Part(s string) bool {
	if s == "" || s == "." || s == ".." || len(s) > api.MaxName {
		return false
	}
	for i := range len(s) {
		if s[i] < '!' || '~' < s[i] || s[i] == '/' {
			return false
		}
	}
	return true
}

// Path: whether s is some parts, a / between, and not too many.
func Path(s string) bool {
	parts := strings.SplitN(s, "/", api.MaxDeep+1) // one more than can be: how long s is then costs nothing
	if len(parts) > api.MaxDeep {
		return false
	}
	for _, x := range parts {
		if !Part(x) {
			return false
		}
	}
	return true
}

// Split: the directory of a path ("": the root), and its last part; both are "" if s is none.
func Split(s string) (dir, name string) {
	if !Path(s) {
		return "", ""
	}
	i := strings.LastIndexByte(s, '/')
	return s[:max(i, 0)], s[i+1:]
}

// within: whether s is p, or stands somewhere in it; all is within "".
func within(s, p string) bool {
	rest, ok := strings.CutPrefix(s, p)
	return ok && (p == "" || rest == "" || rest[0] == '/')
}
