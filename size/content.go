package size

import (
	"quoin/api"
	"quoin/brk"
	"quoin/exact"
	"quoin/whit"
)

// How flex boxes stand that are not as others are, by the numbers that a style
// has.
const (
	nowrap        = 0
	column        = 2
	columnReverse = 3
)

// part is a box, with what its kids came to.
type part struct {
	box *api.Box
	// in is which part the box is a kid of.
	in int
	// sum and greatest are of the kids' Outers.
	sum      exact.Sum
	greatest int64
}

// content answers how wide b's content is.
func content(m *api.Metrics, b *api.Box, least bool) int64 {
	l := parts(b)
	for i := len(l) - 1; i > 0; i-- {
		p := &l[i]
		l[p.in].add(outer(&p.box.Style, p.content(m, least)))
	}
	return l[0].content(m, least)
}

// parts answers b and all in it that counts, each behind what it is in.
func parts(b *api.Box) []part {
	// A list, for boxes may be deeper than calls can be.
	l := []part{{box: b}}
	for i := 0; i < len(l); i++ {
		kids := l[i].kids()
		for k := range kids {
			l = append(l, part{box: &kids[k], in: i})
		}
	}
	return l
}

// kids answers the kids that p's content is made of.
func (p *part) kids() []api.Box {
	switch p.box.Kind {
	case api.BBlock, api.BFlex:
		return p.box.Kids
	}
	return nil
}

// add takes the Outer of one of p's kids.
func (p *part) add(n int64) {
	p.sum = p.sum.Plus(n)
	p.greatest = max(p.greatest, n)
}

// content answers how wide p's content is, once all its kids are added.
func (p *part) content(m *api.Metrics, least bool) int64 {
	switch {
	case p.box.Kind == api.BLines && least:
		return brk.Least(whit.Glyphs(*m, p.box.Runs))
	case p.box.Kind == api.BLines:
		return brk.Most(whit.Glyphs(*m, p.box.Runs))
	case p.isRow(least):
		return p.sum.Held()
	}
	return p.greatest
}

// isRow answers whether all of p's kids count side by side.
func (p *part) isRow(least bool) bool {
	s := &p.box.Style
	if p.box.Kind != api.BFlex || s.Dir == column || s.Dir == columnReverse {
		return false
	}
	return !least || s.Wrap == nowrap
}

// outer answers how wide a box is whose content would be n wide.
func outer(s *api.Style, n int64) int64 {
	if s.Width.Kind == api.LFix {
		n = s.Width.N
	}
	sum := exact.Of(Clamp(n, Min(*s, false, unknown), Max(*s, false, unknown)))
	for _, side := range [2]int{left, right} {
		sum = sum.Plus(s.Pad[side]).Plus(s.Border[side])
		if s.Margin[side].Kind == api.LFix {
			sum = sum.Plus(s.Margin[side].N)
		}
	}
	return sum.Held()
}
