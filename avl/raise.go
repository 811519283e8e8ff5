package avl

import (
	"arboretum/api"
	"arboretum/num"
	"arboretum/raise"
)

// raise raises t's part, which may be none: at t at once, while for all below it that waits at t.
func (p *Pool) raise(t, by int) {
	if t == none {
		return
	}
	s := &p.slots[t]
	s.weight = raise.Weight(s.weight, by)
	s.sum = raise.Sum(s.sum, by)
	// Where nothing is below, nothing would ever take it away.
	if s.height > 1 {
		s.wait += by
	}
}

// settle hands what waits at t to the parts below it.
func (p *Pool) settle(t int) {
	s := &p.slots[t]
	if s.wait == 0 {
		return
	}
	by := s.wait
	s.wait = 0
	p.raise(s.left, by)
	p.raise(s.right, by)
}

// settleAbove settles all slots above t, from the top on.
func (p *Pool) settleAbove(t int) {
	if up := p.slots[t].up; up != none {
		p.settleAbove(up)
		p.settle(up)
	}
}

// sumOf answers the sum of the places of t's part from from on to below to, but for what waits above t.
func (p *Pool) sumOf(t, from, to int) api.Sum {
	s := p.slots[t]
	if from <= 0 && to >= s.sum.Count {
		return s.sum
	}
	var all api.Sum
	here := p.count(s.left)
	if from < here {
		all = p.sumOf(s.left, from, to)
	}
	if to > here+1 {
		all = num.Join(all, p.sumOf(s.right, from-here-1, to-here-1))
	}
	all = raise.Sum(all, s.wait)
	if from <= here && to > here {
		all = num.Join(all, num.One(s.weight))
	}
	return all
}

// raiseRange raises the places of t's part from from on to below to; nothing may wait above t.
func (p *Pool) raiseRange(t, from, to, by int) {
	s := &p.slots[t]
	if from <= 0 && to >= s.sum.Count {
		p.raise(t, by)
		return
	}
	p.settle(t)
	here := p.count(s.left)
	if from < here {
		p.raiseRange(s.left, from, to, by)
	}
	if to > here+1 {
		p.raiseRange(s.right, from-here-1, to-here-1, by)
	}
	if from <= here && to > here {
		s.weight = raise.Weight(s.weight, by)
	}
	p.gather(t)
}
