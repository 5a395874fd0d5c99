package server

import (
	"castellan/api"
	"castellan/code"
)

// request is what its bytes tell; what its kind does not have is 0, or nothing.
type request struct {
	kind        kind
	level       int
	path, other string
	at, count   int
	data        string
}

// requestOf reads a request; false, if the bytes are none.
func requestOf(bytes string) (request, bool) {
	r := code.New(bytes)
	k, is := kindOf(r.Num(1))
	if !is {
		return request{}, false
	}
	q := request{kind: k, level: r.Num(1), path: shortText(r)}
	k.rest(&q, r)
	e, _ := r.Done()
	return q, e == api.OK
}

// shortText reads a text behind one byte that says how long it is.
func shortText(r *code.Reader) string {
	return r.Bytes(r.Num(1))
}

// What stands behind the path: nothing; a place and data; another path; a place; a place and a count.

func (q *request) nothing(*code.Reader) {}

func (q *request) placeAndData(r *code.Reader) {
	q.place(r)
	q.data = r.Bytes(r.Left())
}

func (q *request) otherPath(r *code.Reader) {
	q.other = shortText(r)
}

func (q *request) place(r *code.Reader) {
	q.at = r.Num(2)
}

func (q *request) placeAndCount(r *code.Reader) {
	q.place(r)
	q.count = r.Num(2)
}
