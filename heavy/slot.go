package heavy

import (
	"arboretum/api"
	"arboretum/num"
	"arboretum/raise"
)

const (
	none   = 0 // the slot that is no node's: a part that holds nothing; it is never written to
	noNode = -1
)

// slot is a node, and its place in the tree of its path. A path goes down its tree: what is left of a slot is above its node there, what is right of it
// below its node. A slot's part is itself and what is left and right of it.
type slot struct {
	node
	place
	wait  int     // by how much the parts left and right of it, but not itself, are yet to be raised
	sum   api.Sum // of its part, but for what waits above it; Count is 0 if its node isn't there
	hangs int     // what weighs all that hangs at it by other paths
	hung  int     // what weighs all that hangs at its part
}

// node is what paths are made from.
type node struct {
	parent int // the slot of its parent
	kids   int // how many nodes have it as their parent
	weight int // but for what waits above its slot
}

// place is what the shape alone says of a slot.
type place struct {
	head        int // the slot of the upper end of its path
	depth       int // how many nodes are above its own
	size        int // how many nodes are at or below its own
	up          int // the slot of whose part this one is; of a path's top: that of the node at which the path hangs
	left, right int
}

// alone answers slot t as a path by itself.
func alone(t int, n node) slot {
	return slot{node: n, place: place{head: t, size: 1}, sum: num.One(n.weight)}
}

func (s slot) isThere() bool {
	return s.sum.Count > 0
}

// told answers what t tells of its part: the sum of it, and what weighs all that hangs at it.
func (f *Forest) told(t int) (api.Sum, int) {
	s := &f.slots[t]
	left, right := &f.slots[s.left], &f.slots[s.right]
	beside := num.Lift(num.Join(left.sum, right.sum), s.wait)
	return num.Join(beside, num.One(s.weight)), left.hung + s.hangs + right.hung
}

// gather lets t tell of its part what that has become.
func (f *Forest) gather(t int) {
	f.slots[t].sum, f.slots[t].hung = f.told(t)
}

// hold makes left and right the parts beside t. What t itself is part of is left to the caller.
func (f *Forest) hold(t, left, right int) {
	f.slots[t].left = left
	f.slots[t].right = right
	if left != none {
		f.slots[left].up = t
	}
	if right != none {
		f.slots[right].up = t
	}
	f.gather(t)
}

// sumOf answers the sum of t's part, or of t alone, above which nothing may wait.
func (f *Forest) sumOf(t int, whole bool) api.Sum {
	if whole {
		return f.slots[t].sum
	}
	return num.One(f.slots[t].weight)
}

// hangsAt answers what weighs all that hangs at t's part, or at t alone.
func (f *Forest) hangsAt(t int, whole bool) int {
	if whole {
		return f.slots[t].hung
	}
	return f.slots[t].hangs
}

// raise raises t's part, above which nothing may wait: t at once, while for what is left and right of it that waits at t.
func (f *Forest) raise(t, by int) {
	s := &f.slots[t]
	s.weight = raise.Weight(s.weight, by)
	s.sum = num.Lift(s.sum, by)
	// Where there is nothing more, nothing would ever take it away.
	if s.sum.Count > 1 {
		s.wait += by
	}
}

// raiseAlone raises t, above which nothing may wait, but nothing else of its part; it is yet to be gathered.
func (f *Forest) raiseAlone(t, by int) {
	f.slots[t].weight = raise.Weight(f.slots[t].weight, by)
}

// settle hands what waits at t to the parts left and right of it.
func (f *Forest) settle(t int) {
	s := &f.slots[t]
	by := s.wait
	if by == 0 {
		return
	}
	s.wait = 0
	for _, part := range [2]int{s.left, s.right} {
		if part != none {
			f.raise(part, by)
		}
	}
}

// weigh answers the weight of t, with what waits above it.
func (f *Forest) weigh(t int) int {
	w := f.slots[t].weight
	for ; !f.isTop(t); t = f.slots[t].up {
		w += f.slots[f.slots[t].up].wait
	}
	return w
}
