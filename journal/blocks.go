package journal

import (
	"castellan/api"
	"castellan/code"
)

// How wide a head's and a record's numbers are.
const (
	numberWidth = 8
	countWidth  = 1
	cellWidth   = 2
)

// data are a block's.
type data [api.Data]byte

// dataOf are these bytes, with noughts behind them.
func dataOf(s string) data {
	var d data
	copy(d[:], s)
	return d
}

// powerGone is what a call gives up by: the power broke it off.
type powerGone struct{}

func giveUpIfDead(e api.Errno) {
	if e == api.ErrDead {
		panic(powerGone{})
	}
}

func (j *Journal) write(at int, s string, stamp int) {
	giveUpIfDead(j.dev.Write(at, s, stamp))
}

func (j *Journal) barrier() {
	giveUpIfDead(j.dev.Barrier())
}

func (j *Journal) readHome(cell int) (string, api.Errno) {
	s, _, e := j.dev.Read(j.area + cell)
	giveUpIfDead(e)
	return s, e
}

func (j *Journal) writeHead(number, first int) {
	j.write(number%heads, headBytes(first), number)
}

func (j *Journal) writeRecord(l []api.Write) {
	j.write(j.end, recordBytes(l), j.next)
	for i, w := range l {
		j.write(j.end+1+i, w.Data, j.next)
	}
}

// bringBack brings back what is there, of which no record counts any more then.
func (j *Journal) bringBack() api.Errno {
	head, first := j.headThatCounts()
	stamp, e := j.greatestStamp()
	if head == 0 || e != api.OK {
		return api.ErrJournalForm
	}
	j.begin(head, first)
	if stamp < first {
		return api.OK
	}
	if stamp == api.MaxStamp || head == api.MaxStamp {
		return api.ErrJournalForm
	}
	j.takeRecords()
	// Torn blocks may have greater stamps than the records that count: no number may come twice.
	j.layHome(stamp + 1)
	return api.OK
}

// headThatCounts tells its number and its first: 0, if there is none.
func (j *Journal) headThatCounts() (number, first int) {
	for at := range heads {
		if n, f := j.readHead(at); n > number {
			number, first = n, f
		}
	}
	return number, first
}

// readHead tells the number and the first of the head in a block: 0, if that is none.
func (j *Journal) readHead(at int) (number, first int) {
	s, number, e := j.dev.Read(at)
	if e != api.OK || number < firstHead || number%heads != at {
		return 0, 0
	}
	first = code.New(s).Num(numberWidth)
	if first < 1 || first > api.MaxStamp || dataOf(s) != dataOf(headBytes(first)) {
		return 0, 0
	}
	return number, first
}

// greatestStamp is that of the blocks in which records may stand.
func (j *Journal) greatestStamp() (int, api.Errno) {
	most := 0
	for at := heads; at < j.area; at++ {
		stamp, e := j.dev.Stamp(at)
		if e != api.OK {
			return 0, e
		}
		most = max(most, stamp)
	}
	return most, api.OK
}

// takeRecords takes all that count.
func (j *Journal) takeRecords() {
record:
	l, whole := j.readRecord()
	if whole {
		j.take(l)
		goto record
	}
}

// readRecord reads the one that stands behind the others, if it stands whole there.
func (j *Journal) readRecord() ([]api.Write, bool) {
	s, whole := j.readOfRecord(j.end)
	if !whole {
		return nil, false
	}
	l := writesOf(s)
	if len(l) == 0 || !j.areCells(l) {
		return nil, false
	}
	for i := range l {
		if l[i].Data, whole = j.readOfRecord(j.end + 1 + i); !whole {
			return nil, false
		}
	}
	return l, true
}

// readOfRecord reads a block of the next record.
func (j *Journal) readOfRecord(at int) (string, bool) {
	if at >= j.area {
		return "", false
	}
	s, stamp, e := j.dev.Read(at)
	return s, e == api.OK && stamp == j.next
}

// headBytes are those of a head's data.
func headBytes(first int) string {
	return code.Put(first, numberWidth)
}

// recordBytes are those of a record's first data.
func recordBytes(l []api.Write) string {
	s := code.Put(len(l), countWidth)
	for _, w := range l {
		s += code.Put(w.Cell, cellWidth)
	}
	return s
}

// writesOf are those, without data, of which a record's first data tell: none, if these are no record's.
func writesOf(s string) []api.Write {
	r := code.New(s)
	n := r.Num(countWidth)
	if n > api.MaxWrites {
		return nil
	}
	l := make([]api.Write, n)
	for i := range l {
		l[i].Cell = r.Num(cellWidth)
	}
	if dataOf(s) != dataOf(recordBytes(l)) {
		return nil
	}
	return l
}
