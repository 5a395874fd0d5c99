package volume

import (
	"iter"
	"maps"
	"slices"
	"strings"
)

// node is a file, or a directory, which has no data.
type node struct {
	dir  bool
	data string
}

// nodes are all that is there, by paths; the root is not among them.
type nodes map[string]node

// at is what stands at a path.
func (l nodes) at(path string) (node, bool) {
	if path == root {
		return node{dir: true}, true
	}
	n, found := l[path]
	return n, found
}

// with is all of this, and a node at a path.
func (l nodes) with(path string, n node) nodes {
	after := maps.Clone(l)
	after[strings.Clone(path)] = n
	return after
}

// without is all of this but what stands at a path.
func (l nodes) without(path string) nodes {
	after := maps.Clone(l)
	delete(after, path)
	return after
}

// paths are those of all nodes, rising.
func (l nodes) paths() []string {
	return slices.Sorted(maps.Keys(l))
}

// in goes through the last names of what is in a directory, in no order.
func (l nodes) in(dir string) iter.Seq[string] {
	return func(yield func(string) bool) {
		for path := range l {
			parent, name := split(path)
			if parent == dir && !yield(name) {
				return
			}
		}
	}
}
