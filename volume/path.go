package volume

import (
	"strings"

	"castellan/api"
)

const root = "/"

// Path tells whether a text is one.
func Path(s string) bool {
	if s == root {
		return true
	}
	if len(s) > api.MaxPath || !strings.HasPrefix(s, root) {
		return false
	}
	for _, name := range strings.Split(s[1:], root) {
		if !isName(name) {
			return false
		}
	}
	return true
}

func isName(s string) bool {
	if s == "" || s == "." || s == ".." || len(s) > api.MaxName {
		return false
	}
	for i := range len(s) {
		if !isNameByte(s[i]) {
			return false
		}
	}
	return true
}

func isNameByte(b byte) bool {
	return b >= 'a' && b <= 'z' || b >= '0' && b <= '9' || b == '.' || b == '_' || b == '-'
}

// split takes a path that is not the root apart: into its parent and its last name.
func split(path string) (parent, name string) {
	at := strings.LastIndex(path, root)
	if at == 0 {
		return root, path[1:]
	}
	return path[:at], path[at+1:]
}
