// Package code is layer 1: numbers and texts as bytes. See shared/doc/01-code.md.
package code

import (
	"strings"

	"castellan/api"
)

const (
	polynomial = 0xEDB88320
	maxWidth   = 8 // bytes of an int
	textHead   = 2 // bytes that say how long a text is
)

// Sum32 is the CRC-32 of bytes.
func Sum32(s string) uint32 {
	sum := ^uint32(0)
	for i := range len(s) {
		// To add the byte ahead of its eight steps is the same as to hold the register against one bit a step.
		sum ^= uint32(s[i])
		for range 8 {
			sum = step(sum)
		}
	}
	return ^sum
}

func step(sum uint32) uint32 {
	if sum&1 == 1 {
		return sum>>1 ^ polynomial
	}
	return sum >> 1
}

func isWidth(w int) bool {
	return 1 <= w && w <= maxWidth
}

// Put is a number's form: nothing, if there is none of that width.
func Put(n, w int) string {
	if !isWidth(w) {
		return ""
	}
	form := make([]byte, w)
	for i := w - 1; i >= 0; i-- {
		form[i] = byte(n)
		n >>= 8
	}
	return string(form)
}

// PutText is a text's form.
func PutText(s string) (string, api.Errno) {
	if len(s) > api.MaxString {
		return "", api.ErrCodeLong
	}
	return Put(len(s), textHead) + s, api.OK
}

// Reader goes over bytes, till its first fault.
type Reader struct {
	bytes string
	at    int
	fault api.Errno // its place is at: with a fault the reader stays where it is
}

// New stands at the beginning of bytes.
func New(s string) *Reader {
	return &Reader{bytes: s}
}

// Num reads a number of w bytes.
func (r *Reader) Num(w int) int {
	return read(r, piece{most: w, wide: !isWidth(w)}, number)
}

// Text reads a text's form, of a text of so many bytes at most.
func (r *Reader) Text(most int) string {
	return read(r, piece{head: textHead, most: most, wide: most < 0}, strings.Clone)
}

// Bytes reads n bytes.
func (r *Reader) Bytes(n int) string {
	return read(r, piece{most: n, wide: n < 0}, strings.Clone)
}

// piece is what is to be read: a body of most bytes; or a head, and a body as long as the head says, of most bytes at most.
type piece struct {
	head, most int
	wide       bool // no piece has that many bytes
}

// read tells what stands in a piece's body; what can't be read leaves the reader where it is, with a fault.
func read[T int | string](r *Reader, p piece, made func(body string) T) (told T) {
	rest, size, e := r.bytes[r.at:], p.most, r.fault
	if e != api.OK {
		goto end
	}
	if p.wide {
		e = api.ErrCodeWide
		goto end
	}
	if len(rest) < p.head {
		e = api.ErrCodeEnd
		goto end
	}
	if p.head > 0 {
		size = number(rest[:p.head])
	}
	// A text that is too long is told as such even where its bytes end, so this stands ahead of the next.
	if size > p.most {
		e = api.ErrCodeLong
		goto end
	}
	if size > len(rest)-p.head {
		e = api.ErrCodeEnd
		goto end
	}
	told = made(rest[p.head : p.head+size])
	r.at += p.head + size
end:
	r.fault = e
	return told
}

func number(body string) int {
	n := 0
	for i := range len(body) {
		n = n<<8 | int(body[i])
	}
	return n
}

// At is where the reader stands.
func (r *Reader) At() int {
	return r.at
}

// Left is how many bytes stand behind that.
func (r *Reader) Left() int {
	return len(r.bytes) - r.at
}

// Fault is what went wrong, and where: OK and 0, if nothing did.
func (r *Reader) Fault() (api.Errno, int) {
	if r.fault == api.OK {
		return api.OK, 0
	}
	return r.fault, r.at
}

// Done is the fault, if there is one; else it tells whether bytes are left, which is no fault: reading may go on.
func (r *Reader) Done() (api.Errno, int) {
	if r.fault == api.OK && r.Left() > 0 {
		return api.ErrCodeMore, r.at
	}
	return r.Fault()
}

// Clone is another reader in the same state.
func (r *Reader) Clone() *Reader {
	c := *r
	return &c
}
