package config

import (
	"strings"

	"castellan/api"
	"castellan/code"
)

const (
	byteBits = 8
	narrow   = 1 // bytes of most numbers
	wide     = 2 // bytes of sectors' and of times' numbers
)

// A walker is led over all numbers and texts of a config, in the order of their bytes.
type walker interface {
	num(n *int, w int)
	text(s *string)
}

// walk is the one place that says how a config's bytes lie: who prints and who parses are both led by it.
func walk(w walker, c *api.Config) {
	nums(w, narrow, &c.Levels)
	list(w, &c.Flows, func(p *[2]int) { nums(w, narrow, &p[0], &p[1]) })
	list(w, &c.Parts, func(p *api.Part) { nums(w, narrow, &p.Level, &p.Pages) })
	list(w, &c.Windows, func(x *api.Window) { nums(w, narrow, &x.Kind, &x.Index, &x.Ticks) })
	list(w, &c.Ports, func(p *api.Port) { nums(w, narrow, &p.Kind, &p.From, &p.To, &p.Size, &p.Depth) })
	list(w, &c.Volumes, func(v *api.Volume) {
		nums(w, narrow, &v.Level)
		extent(w, v)
	})
	extent(w, &c.Audit)
	nums(w, wide, &c.Boot, &c.Sectors)
	list(w, &c.Rules, func(r *api.Rule) {
		nums(w, narrow, &r.From, &r.To, &r.Action)
		w.text(&r.Pattern)
		w.text(&r.With)
	})
	list(w, &c.Keys, w.text)
	w.text(&c.Login)
	nums(w, wide, &c.Recovery, &c.Bound)
}

func nums(w walker, width int, l ...*int) {
	for _, n := range l {
		w.num(n, width)
	}
}

func extent(w walker, v *api.Volume) {
	nums(w, wide, &v.First, &v.Count, &v.Journal)
}

// list leads over how many things a list has, and over these. One that is parsed is empty first, and is made as long as its bytes say.
func list[T any](w walker, l *[]T, thing func(*T)) {
	n := len(*l)
	w.num(&n, narrow)
	if len(*l) != n {
		*l = make([]T, n)
	}
	for i := range *l {
		thing(&(*l)[i])
	}
}

// printer lays what it is led over, and changes none of it: the things of lists are their owner's.
type printer struct {
	bytes   strings.Builder
	refused bool // something could not be laid
}

func (p *printer) num(n *int, w int) {
	p.refused = p.refused || *n < 0 || *n >= 1<<(byteBits*w)
	p.put(code.Put(*n, w))
}

func (p *printer) text(s *string) {
	form, e := code.PutText(*s)
	p.refused = p.refused || e != api.OK
	p.put(form)
}

func (p *printer) put(s string) {
	if !p.refused {
		p.bytes.WriteString(s)
	}
}

// parser reads what it is led over. Behind a fault of its reader all is 0, and nothing.
type parser struct {
	r *code.Reader
}

func (p parser) num(n *int, w int) {
	*n = p.r.Num(w)
}

func (p parser) text(s *string) {
	*s = p.r.Text(api.MaxString)
}
