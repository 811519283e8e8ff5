package avl

import (
	"arboretum/num"
	"arboretum/raise"
)

// Check tells whether all is as the chapter has it; of nil it isn't.
func (p *Pool) Check() bool {
	return p != nil && p.listFits() && p.slotsFit()
}

// listFits tells whether there is no more than there is room for, and slot none is there.
func (p *Pool) listFits() bool {
	return p.room <= most && len(p.slots) >= 1 && len(p.slots)-1 <= p.room && p.slots[none] == slot{}
}

// slotsFit looks at each slot with those next to it alone: since a height is above those of both sides, no way up goes round.
func (p *Pool) slotsFit() bool {
	for t, s := range p.slots {
		if s.height == 0 && s != (slot{}) {
			return false
		}
		if s.height != 0 && !(p.linksFit(t) && p.treeFits(t) && p.sumFits(t)) {
			return false
		}
	}
	return true
}

// linksFit tells whether t and those above and below it know of each other.
func (p *Pool) linksFit(t int) bool {
	s := p.slots[t]
	if !p.isSlot(s.up) || !p.isSlot(s.left) || !p.isSlot(s.right) {
		return false
	}
	if s.left == s.right && s.left != none {
		return false
	}
	up := p.slots[s.up]
	return (s.up == none || up.left == t || up.right == t) && p.isBelow(s.left, t) && p.isBelow(s.right, t)
}

func (p *Pool) isSlot(t int) bool {
	return t >= 0 && t < len(p.slots)
}

// isBelow tells whether kid, unless it is none, knows that it is below t. (So one that isn't there is none: it knows of nothing.)
func (p *Pool) isBelow(kid, t int) bool {
	return kid == none || p.slots[kid].up == t
}

// treeFits tells whether t is as high as what is below it asks for, and neither side too high.
func (p *Pool) treeFits(t int) bool {
	s, lean := p.slots[t], p.lean(t)
	return s.height == 1+max(p.slots[s.left].height, p.slots[s.right].height) && lean >= -1 && lean <= 1
}

// sumFits tells whether t's sum is that of its part, all weights in it are weights, and nothing waits for nobody.
func (p *Pool) sumFits(t int) bool {
	s := p.slots[t]
	below := num.Join(p.slots[s.left].sum, p.slots[s.right].sum)
	all := num.Join(raise.Sum(below, s.wait), num.One(s.weight))
	return s.sum == all && num.Fits(all.Min) && num.Fits(all.Max) && (s.wait == 0 || below.Count > 0)
}
