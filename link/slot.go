package link

import (
	"arboretum/api"
	"arboretum/num"
	"arboretum/raise"
)

const (
	none   = 0 // the slot that is no node's: a part that holds nothing; it is never written to
	noNode = -1
)

// slot is a node's place in the splay tree of its path. A path goes down its tree: what is left of a slot is above its node there, what is right of it
// below its node. A slot's part is itself and what is left and right of it.
type slot struct {
	up          int // the slot of whose part this one is; of a splay tree's top: that of the node at which its path hangs
	left, right int
	turn        bool // whether the parts left and right of it are yet to be turned round
	weight      int
	wait        int     // by how much the parts left and right of it, but not itself, are yet to be raised
	sum         api.Sum // of its part, but for what waits above it; Count is 0 if its node isn't there
	hangs       mass    // what hangs at it by other paths
	hung        mass    // what hangs at its part
}

// mass is how many nodes there are and what they weigh together: of a sum, what can be taken away again.
type mass struct{ count, weight int }

func (m mass) with(n mass) mass {
	return mass{m.count + n.count, m.weight + n.weight}
}

func (m mass) without(n mass) mass {
	return mass{m.count - n.count, m.weight - n.weight}
}

// whole answers what is in the slot's part, and all that hangs at it.
func (s slot) whole() mass {
	return s.hung.with(mass{s.sum.Count, s.sum.Sum})
}

// gather works out what t, at which nothing waits, tells of its part.
func (f *Forest) gather(t int) {
	s := &f.slots[t]
	left, right := &f.slots[s.left], &f.slots[s.right]
	s.sum = num.Join(num.Join(left.sum, num.One(s.weight)), right.sum)
	s.hung = left.hung.with(s.hangs).with(right.hung)
}

// turn turns t's part round, which may be none: at t at once, while for what is left and right of it that waits at t.
func (f *Forest) turn(t int) {
	s := &f.slots[t]
	// Where there is nothing more, nothing would ever take it away.
	if s.sum.Count > 1 {
		s.left, s.right = s.right, s.left
		s.turn = !s.turn
	}
}

// raise raises t's part, which may be none, as turn turns it round.
func (f *Forest) raise(t, by int) {
	if t == none {
		return
	}
	s := &f.slots[t]
	s.weight = raise.Weight(s.weight, by)
	s.sum = num.Lift(s.sum, by)
	if s.sum.Count > 1 {
		s.wait += by
	}
}

// settle hands what waits at t to the parts left and right of it.
func (f *Forest) settle(t int) {
	s := &f.slots[t]
	if s.turn {
		s.turn = false
		f.turn(s.left)
		f.turn(s.right)
	}
	if s.wait != 0 {
		by := s.wait
		s.wait = 0
		f.raise(s.left, by)
		f.raise(s.right, by)
	}
}
