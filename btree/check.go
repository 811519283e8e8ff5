package btree

import (
	"slices"

	"arboretum/num"
	"arboretum/raise"
)

// Check tells whether all is as the chapter has it; of nil it isn't.
func (p *Pool) Check() bool {
	if p == nil || p.room > most || len(p.items) > p.room {
		return false
	}
	there, found := 0, 0
	for v, k := range p.items {
		if k == nil {
			continue
		}
		there++
		if k.item != v {
			return false
		}
		top := k.topOfFirst()
		if top == nil {
			continue
		}
		if !p.knotFits(top) {
			return false
		}
		found += top.sum.Count
	}
	// Were there more, one would be in none of the trees that were looked at.
	return there == found
}

// topOfFirst answers the top of the tree that begins with k; nil, if another one is ahead of it. It ends, whatever knots there are, since it goes on
// only to one that is higher.
func (k *knot) topOfFirst() *knot {
	for k.up != nil {
		up := k.up
		if up.height <= k.height || len(up.parts) == 0 || up.parts[0] != k {
			return nil
		}
		k = up
	}
	return k
}

// knotFits tells whether k, and all below it, is as it must be.
func (p *Pool) knotFits(k *knot) bool {
	if k.height == 0 {
		return p.itemFits(k)
	}
	return k.sizeFits() && p.partsFit(k) && k.sumFits()
}

// itemFits tells whether k is an item of p.
func (p *Pool) itemFits(k *knot) bool {
	w := k.sum.Sum
	return p.find(k.item) == k && len(k.parts) == 0 && k.wait == 0 && k.sum == num.One(w) && num.Fits(w)
}

// sizeFits tells whether k has neither too few nor too many parts.
func (k *knot) sizeFits() bool {
	least := leastParts
	if k.up == nil {
		least = 2
	}
	return len(k.parts) >= least && len(k.parts) <= mostParts
}

// partsFit tells whether all parts of k know of it, none is there twice, they are as high as they must be, and fit themselves.
func (p *Pool) partsFit(k *knot) bool {
	for i, part := range k.parts {
		if part == nil || part.up != k || slices.Index(k.parts, part) != i || part.height != k.height-1 || !p.knotFits(part) {
			return false
		}
	}
	return true
}

// sumFits tells whether k's sum is that of its parts, with what waits for them, and all weights in it are weights.
func (k *knot) sumFits() bool {
	return k.sum == raise.Sum(k.below(), k.wait) && num.Fits(k.sum.Min) && num.Fits(k.sum.Max)
}
