package tour

import (
	"arboretum/api"
	"arboretum/avl"
	"arboretum/btree"
)

// sequences is what tours stand in: all that is asked of layers 6 and 7.
type sequences interface {
	Has(v int) bool
	Add(v, w int) bool
	Drop(v int) bool
	Rank(v int) int
	At(v, k int) int
	Same(a, b int) bool
	Before(v int) bool
	Join(a, b int) bool
	Get(v int) (int, bool)
	Set(v, w int) bool
	Range(a, b int) (api.Sum, bool)
	Lift(a, b, by int) bool
	All(v int) api.Sum
	Check() bool
}

// newSequences answers sequences of this kind, with room for n items, no more than either kind may have; nil, if tours don't stand in that kind.
func newSequences(kind, n int) sequences {
	switch kind {
	case api.Avl:
		return avl.New(n)
	case api.Btree:
		return btree.New(n)
	}
	return nil
}

// A node comes with three items: itself, and a pair of arcs.
const perNode = 3

// item answers the item that is v itself.
func item(v int) int {
	return perNode * v
}

// arcs answers the pair with which v comes.
func arcs(v int) (int, int) {
	return item(v) + 1, item(v) + 2
}

// owner answers the node with which x comes.
func owner(x int) int {
	return x / perNode
}

// nodesOf answers how many nodes there are in a part of this many items: a whole tour, in which the root has no arcs, or what arcs are about, and they.
func nodesOf(items int) int {
	return (items + 2) / perNode
}
