package journal_test

import (
	"encoding/binary"
	"hash/crc32"
	"math/rand"
	"slices"
	"strconv"
	"strings"
	"testing"

	"castellan/api"
	"castellan/block"
	"castellan/disk"
	"castellan/journal"
)

// A model is a second journal, by the chapter's words: it keeps nothing of heads, records and cells, but reads all of it from the disk at each call.
type model struct {
	disk               *disk.Disk
	first, count, area int
	dead               bool
	room, next         int // of a dead one
}

// sector are a block's bytes, of a dead disk, too.
func (m *model) sector(at int) string {
	if s, e := m.disk.Read(m.first + at); e == api.OK {
		return s
	}
	return m.disk.Image()[128*(m.first+at):][:128]
}

// read tells what a block reads as.
func (m *model) read(at int) (data string, stamp int, fine bool) {
	s := m.sector(at)
	number := binary.BigEndian.Uint64([]byte(s[120:]))
	if binary.BigEndian.Uint32([]byte(s[116:])) != crc32.ChecksumIEEE([]byte(s[:116])) || number > most {
		return "", 0, false
	}
	return s[:116], int(number), true
}

// head is the one that counts, with its first: 0, if none does.
func (m *model) head() (number, first int) {
	for at := range 2 {
		data, stamp, fine := m.read(at)
		if !fine {
			continue
		}
		f := binary.BigEndian.Uint64([]byte(data))
		if stamp >= 2 && stamp%2 == at && f >= 1 && f <= most && data == headData(int(f)) && stamp > number {
			number, first = stamp, int(f)
		}
	}
	return number, first
}

// record is the one of a number at a place, if it stands whole there.
func (m *model) record(at, number int) []api.Write {
	if at > m.area-1 {
		return nil
	}
	data, stamp, fine := m.read(at)
	if !fine || stamp != number || data[0] < 1 || data[0] > 40 || at+int(data[0]) > m.area-1 {
		return nil
	}
	n := int(data[0])
	var l []api.Write
	seen := map[int]bool{}
	for i := range n {
		cell := int(binary.BigEndian.Uint16([]byte(data[1+2*i:])))
		d, s, f := m.read(at + 1 + i)
		if seen[cell] || cell >= m.count-m.area || !f || s != number {
			return nil
		}
		seen[cell] = true
		l = append(l, w(cell, d))
	}
	if strings.Trim(data[1+2*n:], "\x00") != "" {
		return nil
	}
	return l
}

// records are those that count.
func (m *model) records() [][]api.Write {
	_, first := m.head()
	var l [][]api.Write
	for at := 2; ; {
		r := m.record(at, first+len(l))
		if r == nil {
			return l
		}
		l = append(l, r)
		at += 1 + len(r)
	}
}

// end is the block behind the records.
func (m *model) end() int {
	at := 2
	for _, r := range m.records() {
		at += 1 + len(r)
	}
	return at
}

// cell is what one has.
func (m *model) cell(c int) (string, api.Errno) {
	l := m.records()
	slices.Reverse(l)
	for _, r := range l {
		for _, x := range r {
			if x.Cell == c {
				return x.Data, api.OK
			}
		}
	}
	if m.disk.Dead() {
		return "", m.dies()
	}
	data, _, fine := m.read(m.area + c)
	if !fine {
		return "", api.ErrBlockSum
	}
	return data, api.OK
}

func (m *model) most() int { return min(40, m.area-3) }

func (m *model) roomAndNext() (int, int) {
	if m.dead {
		return m.room, m.next
	}
	_, first := m.head()
	n, end := 0, m.end()
	for n < m.most() && end+n+1 < m.area {
		n++
	}
	return n, first + len(m.records())
}

func (m *model) dies() api.Errno {
	m.dead = true
	return api.ErrDead
}

// does makes changes one behind the other, up to the one in which the power goes.
func (m *model) does(l []step) bool {
	for _, s := range l {
		e := api.OK
		if s.at < 0 {
			e = m.disk.Flush(m.first, m.count)
		} else {
			e = m.disk.Write(m.first+s.at, s.s)
		}
		if e != api.OK {
			return false
		}
	}
	return true
}

// lays are the changes of a checkpoint, with the next head's first.
func (m *model) lays(first int) []step {
	written := map[int]string{}
	for _, r := range m.records() {
		for _, x := range r {
			written[x.Cell] = x.Data
		}
	}
	l := []step{barrier}
	for c := range m.count - m.area {
		if data, is := written[c]; is {
			l = append(l, step{m.area + c, sector(data, 0)})
		}
	}
	number, _ := m.head()
	return append(l, barrier, step{(number + 1) % 2, head(number+1, first)}, barrier)
}

// mayBe tells whether the area is one.
func (m *model) mayBe() bool { return m.area >= 4 && m.area <= m.count-1 }

func (m *model) format() api.Errno {
	if !m.mayBe() {
		return api.ErrJournalForm
	}
	l := []step{{0, head(2, 1)}}
	for at := 1; at < m.count; at++ {
		l = append(l, step{at, sector("", 0)})
	}
	if !m.does(append(l, barrier)) {
		return api.ErrDead
	}
	return api.OK
}

func (m *model) open() api.Errno {
	if m.disk.Dead() {
		return api.ErrDead
	}
	if !m.mayBe() {
		return api.ErrJournalForm
	}
	number, first := m.head()
	if number == 0 {
		return api.ErrJournalForm
	}
	greatest := uint64(0)
	for at := 2; at < m.area; at++ {
		greatest = max(greatest, binary.BigEndian.Uint64([]byte(m.sector(at)[120:])))
	}
	switch {
	case greatest > most:
		return api.ErrJournalForm
	case int(greatest) < first:
		return api.OK
	case greatest == most || number == most:
		return api.ErrJournalForm
	case !m.does(m.lays(int(greatest) + 1)):
		return api.ErrDead
	}
	return api.OK
}

func (m *model) commit(l []api.Write) api.Errno {
	room, next := m.roomAndNext()
	number, _ := m.head()
	switch {
	case m.dead:
		return api.ErrDead
	case len(l) == 0:
		return api.OK
	case len(l) > m.most():
		return api.ErrJournalLong
	}
	for _, x := range l {
		if len(x.Data) > 116 {
			return api.ErrJournalLong
		}
	}
	seen := map[int]bool{}
	for _, x := range l {
		if x.Cell < 0 || x.Cell > m.count-m.area-1 || seen[x.Cell] {
			return api.ErrJournalAt
		}
		seen[x.Cell] = true
	}
	if next == most || len(l) > room && number == most {
		return api.ErrJournalForm
	}
	var steps []step
	at := m.end()
	if len(l) > room {
		steps, at = m.lays(next), 2
	}
	for s := record(next, l...); s != ""; s = s[128:] {
		steps = append(steps, step{at, s[:128]})
		at++
	}
	m.room, m.next = room, next
	if !m.does(steps) {
		return m.dies()
	}
	return api.OK
}

func (m *model) checkpoint() api.Errno {
	number, _ := m.head()
	switch {
	case m.dead:
		return api.ErrDead
	case number == most:
		return api.ErrJournalForm
	case len(m.records()) == 0:
		return api.OK
	}
	m.room, m.next = m.roomAndNext()
	if !m.does(m.lays(m.next)) {
		return m.dies()
	}
	return api.OK
}

func (m *model) sync() api.Errno {
	if m.dead {
		return api.ErrDead
	}
	m.room, m.next = m.roomAndNext()
	if !m.does([]step{barrier}) {
		return m.dies()
	}
	return api.OK
}

// pair is a journal and its model, each on a disk of its own, to which the same is done.
type pair struct {
	t     *testing.T
	what  string // what was done so far
	d     *disk.Disk
	j     *journal.Journal
	m     *model
	cache int
}

func pairOf(t *testing.T, image string, first, count, area, cache int) *pair {
	t.Helper()
	what := strconv.Itoa(len(image)/128) + " sectors, from " + strconv.Itoa(first) + " on " + strconv.Itoa(count) + ", area " + strconv.Itoa(area)
	return &pair{t, what, diskOf(t, image), nil, &model{disk: diskOf(t, image), first: first, count: count, area: area}, cache}
}

func (p *pair) clone() *pair {
	c, m := *p, *p.m
	c.what += "; Clone"
	c.d = p.d.Clone()
	m.disk = p.m.disk.Clone()
	c.m = &m
	if p.j != nil {
		c.j = p.j.Clone(devOf(p.t, c.d, m.first, m.count, p.cache))
	}
	return &c
}

func (p *pair) is(e, w api.Errno) {
	p.t.Helper()
	if e != w {
		p.t.Fatalf("%s: %d, not %d", p.what, e, w)
	}
	p.hold()
}

// hold holds all that can be told without a change.
func (p *pair) hold() {
	p.t.Helper()
	if p.d.Dead() != p.m.disk.Dead() || p.d.Image() != p.m.disk.Image() || p.d.Safe() != p.m.disk.Safe() || !slices.Equal(p.d.Waiting(), p.m.disk.Waiting()) {
		p.t.Fatalf("%s: the disk is not as it should be", p.what)
	}
	if p.j == nil {
		return
	}
	room, next := p.m.roomAndNext()
	if p.j.Room() != room || p.j.Next() != next || p.j.Dead() != p.m.dead || p.j.Cells() != p.m.count-p.m.area || p.j.Most() != p.m.most() {
		p.t.Fatalf("%s: Room %d, Next %d, Dead %v, Cells %d, Most %d, not %d, %d, %v, %d, %d", p.what,
			p.j.Room(), p.j.Next(), p.j.Dead(), p.j.Cells(), p.j.Most(), room, next, p.m.dead, p.m.count-p.m.area, p.m.most())
	}
}

// start formats, or opens, over a new extent, as a start of the machine does.
func (p *pair) start(what string, do func(v *block.Dev, area int) (*journal.Journal, api.Errno), second func() api.Errno) api.Errno {
	p.t.Helper()
	p.what += "; " + what
	p.m.dead = false
	j, e := do(devOf(p.t, p.d, p.m.first, p.m.count, p.cache), p.m.area)
	if (j != nil) != (e == api.OK) {
		p.t.Fatalf("%s: %v, %d", p.what, j != nil, e)
	}
	p.j = j
	p.is(e, second())
	return e
}

func (p *pair) format() api.Errno {
	p.t.Helper()
	return p.start("Format", journal.Format, p.m.format)
}

func (p *pair) open() api.Errno {
	p.t.Helper()
	return p.start("Open", journal.Open, p.m.open)
}

func (p *pair) commit(l []api.Write) api.Errno {
	p.t.Helper()
	p.what += "; Commit"
	for _, x := range l {
		p.what += " " + strconv.Itoa(x.Cell) + ":" + strconv.Quote(x.Data[:min(len(x.Data), 3)])
	}
	given := slices.Clone(l)
	e := p.j.Commit(l)
	if !slices.Equal(l, given) {
		p.t.Fatalf("%s: the list was changed", p.what)
	}
	p.is(e, p.m.commit(given))
	return e
}

func (p *pair) checkpoint() api.Errno {
	p.t.Helper()
	p.what += "; Checkpoint"
	e := p.j.Checkpoint()
	p.is(e, p.m.checkpoint())
	return e
}

func (p *pair) sync() api.Errno {
	p.t.Helper()
	p.what += "; Sync"
	e := p.j.Sync()
	p.is(e, p.m.sync())
	return e
}

// read reads a cell.
func (p *pair) read(cell int) {
	p.t.Helper()
	var data string
	e := api.OK
	p.m.room, p.m.next = p.m.roomAndNext()
	switch {
	case p.m.dead:
		e = api.ErrDead
	case cell < 0 || cell >= p.m.count-p.m.area:
		e = api.ErrJournalAt
	default:
		data, e = p.m.cell(cell)
	}
	if got, ge := p.j.Read(cell); got != data || ge != e {
		p.t.Fatalf("%s; Read %d: %.20q, %d, not %.20q, %d", p.what, cell, got, ge, data, e)
	}
}

// readAll reads all cells, and one on each side of them.
func (p *pair) readAll() {
	p.t.Helper()
	for cell := -1; cell <= p.m.count-p.m.area; cell++ {
		p.read(cell)
	}
}

func (p *pair) arm(n int, choices []int) {
	p.t.Helper()
	p.what += "; Arm " + strconv.Itoa(n)
	e := p.d.Arm(n, choices)
	p.is(e, p.m.disk.Arm(n, choices))
}

func (p *pair) revive() {
	p.what += "; Revive"
	p.d.Revive()
	p.m.disk.Revive()
}

// rowsOf goes through all rows of n calls of a few, on from a state.
func rowsOf(p *pair, n int) {
	p.readAll()
	if n == 0 {
		return
	}
	s := strconv.Itoa(n)
	for _, call := range []func(p *pair){
		func(p *pair) { p.commit([]api.Write{w(1, s)}) },
		func(p *pair) { p.commit([]api.Write{w(2, s), w(0, s)}) },
		func(p *pair) { p.commit([]api.Write{w(0, s), w(1, s), w(2, s)}) },
		func(p *pair) { p.commit([]api.Write{w(0, s), w(3, s)}) },
		func(p *pair) { p.checkpoint() },
		func(p *pair) { p.sync() },
		func(p *pair) { p.open() },
	} {
		q := p.clone()
		call(q)
		rowsOf(q, n-1)
	}
}

func TestAllShortRows(t *testing.T) {
	for area := 4; area <= 8; area++ {
		p := pairOf(t, noughts(128*(area+3)), 0, area+3, area, 0)
		p.format()
		rowsOf(p, 4)
	}
}

func anyBytes(rnd *rand.Rand, n int) string {
	b := make([]byte, n)
	rnd.Read(b)
	return string(b)
}

// anyData are some that look as heads and records do, too.
func anyData(rnd *rand.Rand) string {
	switch rnd.Intn(8) {
	case 0:
		return anyBytes(rnd, 116)
	case 1:
		return headData(rnd.Intn(8))
	case 2:
		return cellsData(rnd.Perm(1 + rnd.Intn(3))...)
	case 3:
		return ""
	}
	return anyBytes(rnd, rnd.Intn(4))
}

// anyWrites are some by chance, of which few can't be.
func anyWrites(rnd *rand.Rand, cells, most int) []api.Write {
	l := make([]api.Write, rnd.Intn(min(most, cells)+1))
	perm := rnd.Perm(cells)
	for i := range l {
		l[i] = w(perm[i], anyData(rnd))
	}
	if len(l) > 0 && rnd.Intn(12) == 0 {
		switch at := rnd.Intn(len(l)); rnd.Intn(4) {
		case 0:
			l[at].Cell = rnd.Intn(cells+4) - 2
		case 1:
			l[at].Data = anyBytes(rnd, 115+rnd.Intn(4))
		case 2:
			l[at].Cell = far[rnd.Intn(len(far))]
		case 3:
			l = append(l, l[at:]...)
		}
	}
	return l
}

// anyChoice is one of a sector: old, new, or torn, most often where the stamp is.
func anyChoice(rnd *rand.Rand) int {
	switch rnd.Intn(6) {
	case 0, 1:
		return 0
	case 2, 3:
		return 128
	case 4:
		return 120 + rnd.Intn(8)
	}
	return 1 + rnd.Intn(127)
}

func anyChoices(rnd *rand.Rand, n int) []int {
	l := make([]int, n)
	for i := range l {
		l[i] = anyChoice(rnd)
	}
	return l
}

// anySector is one by chance that might be a journal's.
func anySector(rnd *rand.Rand, at, cells int) string {
	number := 1 + rnd.Intn(6)
	switch n := rnd.Intn(10); {
	case n == 0:
		return noughts(128)
	case n == 1:
		return unsummed(number)
	case at < 2 && n < 8:
		return head(2*number-at%2, 1+rnd.Intn(2))
	case n < 4:
		return sector(anyData(rnd), number)
	case n == 4 && rnd.Intn(20) == 0:
		return sector("x", most-2+rnd.Intn(4))
	}
	return record(1+rnd.Intn(3), w(rnd.Intn(cells), "x"), w(rnd.Intn(cells), "y"))[:128]
}

// anyImage is one of a journal's extent that was never formatted, with many records.
func anyImage(rnd *rand.Rand, count, area int) string {
	s, number := "", 1+rnd.Intn(2)
	for len(s) < 128*count {
		at := len(s) / 128
		if at >= 2 && at < area && rnd.Intn(4) > 0 {
			l := anyWrites(rnd, count-area, min(3, area-3))
			if len(l) == 0 && rnd.Intn(4) > 0 {
				l = writes(1, "one")
			}
			for i := range l {
				l[i].Data = l[i].Data[:min(116, len(l[i].Data))]
				l[i].Cell &= 0xffff
			}
			s += record(number, l...)
			number += rnd.Intn(9) / 2 % 3
			continue
		}
		s += anySector(rnd, at, count-area)
	}
	return s[:128*count]
}

// Images of all kinds, most of which are none of a journal, are opened, and used on, if they are one.
func TestOpenOfAnyImages(t *testing.T) {
	fine, taken := 0, 0
	for seed := range int64(8000) {
		rnd := rand.New(rand.NewSource(seed))
		area := 4 + rnd.Intn(8)
		count := area + 1 + rnd.Intn(4)
		p := pairOf(t, anyImage(rnd, count, area), 0, count, area, rnd.Intn(17))
		p.what = "seed " + strconv.FormatInt(seed, 10)
		if rnd.Intn(4) == 0 {
			p.arm(1+rnd.Intn(6), anyChoices(rnd, count))
		}
		taken += min(1, len(p.m.records()))
		if p.open() != api.OK {
			continue
		}
		fine++
		p.readAll()
		p.commit(anyWrites(rnd, count-area, area-3))
		p.checkpoint()
		p.readAll()
	}
	if fine < 5000 || taken < 1000 {
		t.Errorf("only %d were opened, %d with records", fine, taken)
	}
}

// anyCall does one by chance.
func (p *pair) anyCall(rnd *rand.Rand) {
	cells := p.m.count - p.m.area
	switch n := rnd.Intn(40); {
	case n < 24:
		p.commit(anyWrites(rnd, cells, p.m.most()+rnd.Intn(8)/7))
	case n < 27:
		p.sync()
	case n < 29:
		p.checkpoint()
	case n < 36:
		p.read(rnd.Intn(cells+2) - 1)
	case n == 36:
		p.arm(rnd.Intn(14), anyChoices(rnd, p.m.first+p.m.count))
	case n == 37:
		p.open()
	default:
		p.readAll()
	}
}

func TestLongRuns(t *testing.T) {
	for seed := range int64(200) {
		rnd := rand.New(rand.NewSource(seed))
		area := 4 + rnd.Intn(12)
		if rnd.Intn(8) == 0 {
			area = 40 + rnd.Intn(60)
		}
		first, count := rnd.Intn(3), area+1+rnd.Intn(area)
		p := pairOf(t, anyBytes(rnd, 128*(first+count+rnd.Intn(3))), first, count, area, rnd.Intn(17))
		p.what = "seed " + strconv.FormatInt(seed, 10)
		p.format()
		var left []*pair
		for range 120 {
			if rnd.Intn(40) == 0 {
				left = append(left, p)
				p = p.clone()
			}
			p.anyCall(rnd)
			if p.d.Dead() {
				if p.j != nil {
					p.read(0)
				}
				p.revive()
				for p.open() != api.OK {
					p.revive()
				}
			}
		}
		for _, q := range left { // what was done to the clone has changed nothing here
			q.hold()
			q.readAll()
		}
	}
}
