package btree

import (
	"arboretum/api"
	"arboretum/num"
	"arboretum/raise"
)

// How many parts a knot may have; a top may have fewer than the least, but not fewer than 2.
const (
	leastParts = 4
	mostParts  = 8
)

// knot is an item, or what holds parts together that are as high as each other.
type knot struct {
	up     *knot
	parts  []*knot // none: it is an item
	height int     // how many rows are below it, that of the items with them: 0, if it is an item
	item   int     // which one, if it is one
	wait   int     // by how much all its parts are yet to be raised
	sum    api.Sum // of its items, but for what waits above it
}

// over answers a new knot with these parts, of which there is at least one.
func over(parts []*knot) *knot {
	k := &knot{height: parts[0].height + 1, item: noItem}
	k.hold(parts)
	return k
}

// hold makes these the parts of k, at which nothing waits, and keeps the list.
func (k *knot) hold(parts []*knot) {
	k.parts = parts
	for _, part := range parts {
		part.up = k
	}
	k.gather()
}

// gather works out the sum of k, at which nothing waits.
func (k *knot) gather() {
	k.sum = k.below()
}

// below answers the sum of k's parts, but for what waits at k and above it.
func (k *knot) below() api.Sum {
	var all api.Sum
	for _, part := range k.parts {
		all = num.Join(all, part.sum)
	}
	return all
}

// top answers the knot at the top of k's tree.
func (k *knot) top() *knot {
	for k.up != nil {
		k = k.up
	}
	return k
}

// ahead answers how many items the parts ahead of k, below the same knot, have.
func (k *knot) ahead() int {
	count := 0
	for _, part := range k.up.parts {
		if part == k {
			break
		}
		count += part.sum.Count
	}
	return count
}

// at answers the item at this place of k, which has one there.
func (k *knot) at(place int) int {
	for k.height > 0 {
		i := 0
		for ; place >= k.parts[i].sum.Count; i++ {
			place -= k.parts[i].sum.Count
		}
		k = k.parts[i]
	}
	return k.item
}

// raise raises k: its sum at once, while for its parts that waits at k.
func (k *knot) raise(by int) {
	k.sum = raise.Sum(k.sum, by)
	// An item has no parts that would ever take it away.
	if k.height > 0 {
		k.wait += by
	}
}

// settle hands what waits at k to its parts.
func (k *knot) settle() {
	if k.wait == 0 {
		return
	}
	for _, part := range k.parts {
		part.raise(k.wait)
	}
	k.wait = 0
}

// settleAbove settles all knots above k, from the top on.
func (k *knot) settleAbove() {
	if k.up != nil {
		k.up.settleAbove()
		k.up.settle()
	}
}

// within does something with each part that has places from from on to below to, and with these places as that part counts them.
func (k *knot) within(from, to int, do func(part *knot, from, to int)) {
	for _, part := range k.parts {
		count := part.sum.Count
		if from < count && to > 0 {
			do(part, from, to)
		}
		from -= count
		to -= count
	}
}

// isAll tells whether the places from from on to below to are all that k has.
func (k *knot) isAll(from, to int) bool {
	return from <= 0 && to >= k.sum.Count
}

// sumOf answers the sum of k's places from from on to below to, but for what waits above k.
func (k *knot) sumOf(from, to int) api.Sum {
	if k.isAll(from, to) {
		return k.sum
	}
	var all api.Sum
	k.within(from, to, func(part *knot, from, to int) {
		all = num.Join(all, part.sumOf(from, to))
	})
	return raise.Sum(all, k.wait)
}

// raiseRange raises k's places from from on to below to; nothing may wait above k.
func (k *knot) raiseRange(from, to, by int) {
	if k.isAll(from, to) {
		k.raise(by)
		return
	}
	k.settle()
	k.within(from, to, func(part *knot, from, to int) {
		part.raiseRange(from, to, by)
	})
	k.gather()
}
