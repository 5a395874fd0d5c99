package volume

import (
	"strings"

	"castellan/api"
	"castellan/journal"
)

// Kinds of entries of an image.
const (
	imageFile = 1 + iota
	imageDir
)

// image are the bytes that lie in the cells.
func (l nodes) image() string {
	b := appendPair(nil, len(l))
	for _, path := range l.paths() {
		n := l[path]
		b = append(b, n.kind(), byte(len(path)))
		b = append(b, path...)
		b = appendPair(b, len(n.data))
		b = append(b, n.data...)
	}
	return string(b)
}

func (n node) kind() byte {
	if n.dir {
		return imageDir
	}
	return imageFile
}

// appendPair lays a number in two bytes, the highest first.
func appendPair(b []byte, n int) []byte {
	return append(b, byte(n>>8), byte(n))
}

// nodesOf is what an image with noughts behind it tells; false, if it is none.
func nodesOf(s string) (nodes, bool) {
	r := &reader{s, true}
	l := nodes{}
	// Each path is greater than the one ahead of it, and each but the root is greater than the root.
	last := root
	for range r.number(2) {
		path, n := r.entry()
		if !r.fine || path <= last || !l.isDirectoryAt(path) {
			return nil, false
		}
		l[path] = n
		last = path
	}
	return l, strings.Trim(r.rest, "\x00") == ""
}

// isDirectoryAt tells whether the parent of a path is a directory.
func (l nodes) isDirectoryAt(path string) bool {
	parent, _ := split(path)
	n, _ := l.at(parent)
	return n.dir
}

// A reader goes over an image's bytes, as long as they are fine.
type reader struct {
	rest string
	fine bool
}

// entry reads a path, and what is there.
func (r *reader) entry() (string, node) {
	kind := r.number(1)
	path := r.text(r.number(1))
	data := r.text(r.number(2))
	dir := kind == imageDir
	if !dir && kind != imageFile || dir && data != "" || len(data) > api.MaxFile || !Path(path) {
		r.fine = false
	}
	return path, node{dir, data}
}

// text reads some bytes; where they end it is not fine any more.
func (r *reader) text(n int) string {
	if n > len(r.rest) {
		r.fine = false
		return ""
	}
	s := strings.Clone(r.rest[:n])
	r.rest = r.rest[n:]
	return s
}

// number reads one of some bytes.
func (r *reader) number(bytes int) int {
	n := 0
	for _, b := range []byte(r.text(bytes)) {
		n = n<<8 | int(b)
	}
	return n
}

// readCells are all bytes of the cells.
func readCells(j *journal.Journal) (string, api.Errno) {
	var b strings.Builder
	for cell := range j.Cells() {
		data, e := j.Read(cell)
		if e != api.OK {
			return "", e
		}
		b.WriteString(data)
	}
	return b.String(), api.OK
}

// cellOf are the bytes of an image that lie in a cell, with noughts behind its end.
func cellOf(image string, cell int) string {
	at := min(api.Data*cell, len(image))
	end := min(at+api.Data, len(image))
	return image[at:end] + strings.Repeat("\x00", api.Data-(end-at))
}
