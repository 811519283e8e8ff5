package avl

import "arboretum/num"

// hold makes left and right the parts below t, at which nothing waits. What t itself is below is left to the caller.
func (p *Pool) hold(t, left, right int) {
	p.slots[t].left = left
	p.slots[t].right = right
	if left != none {
		p.slots[left].up = t
	}
	if right != none {
		p.slots[right].up = t
	}
	p.gather(t)
}

// gather works out what t, at which nothing waits, tells of its part.
func (p *Pool) gather(t int) {
	s := &p.slots[t]
	left, right := p.slots[s.left], p.slots[s.right]
	s.height = 1 + max(left.height, right.height)
	s.sum = num.Join(num.Join(left.sum, num.One(s.weight)), right.sum)
}

// crown makes t, which may be none, the top of its tree.
func (p *Pool) crown(t int) {
	if t != none {
		p.slots[t].up = none
	}
}

// lean answers by how much the part left of t is higher than the one right of it.
func (p *Pool) lean(t int) int {
	s := p.slots[t]
	return p.slots[s.left].height - p.slots[s.right].height
}

// balance lets neither side of t, at which nothing waits, be higher than the other one by 2, and answers the top of what t's part becomes.
func (p *Pool) balance(t int) int {
	s := p.slots[t]
	switch p.lean(t) {
	case 2:
		if p.lean(s.left) < 0 {
			p.hold(t, p.turnLeft(s.left), s.right)
		}
		return p.turnRight(t)
	case -2:
		if p.lean(s.right) > 0 {
			p.hold(t, s.left, p.turnRight(s.right))
		}
		return p.turnLeft(t)
	}
	return t
}

// turnRight puts the slot left of t above it, and answers that.
func (p *Pool) turnRight(t int) int {
	p.settle(t)
	left := p.slots[t].left
	p.settle(left)
	p.hold(t, p.slots[left].right, p.slots[t].right)
	p.hold(left, p.slots[left].left, t)
	return left
}

// turnLeft puts the slot right of t above it, and answers that.
func (p *Pool) turnLeft(t int) int {
	p.settle(t)
	right := p.slots[t].right
	p.settle(right)
	p.hold(t, p.slots[t].left, p.slots[right].left)
	p.hold(right, t, p.slots[right].right)
	return right
}

// between joins two trees, either of which may be none, with t between them, at which nothing waits; it answers the top.
// On its way down the higher one it goes until that is no higher than the other one by more than 1: as many steps as their heights differ.
func (p *Pool) between(left, t, right int) int {
	differ := p.slots[left].height - p.slots[right].height
	switch {
	case differ > 1:
		p.settle(left)
		s := p.slots[left]
		p.hold(left, s.left, p.between(s.right, t, right))
		return p.balance(left)
	case differ < -1:
		p.settle(right)
		s := p.slots[right]
		p.hold(right, p.between(left, t, s.left), s.right)
		return p.balance(right)
	}
	p.hold(t, left, right)
	return t
}

// behead takes the first slot out of t's part; it answers that, at which nothing waits, and the top of what is left, which may be none.
func (p *Pool) behead(t int) (int, int) {
	p.settle(t)
	s := p.slots[t]
	if s.left == none {
		return t, s.right
	}
	first, rest := p.behead(s.left)
	p.hold(t, rest, s.right)
	return first, p.balance(t)
}

// cut parts the tree of t into what is ahead of it and what begins with it: on t's way up, each slot is put, with what is on its far side, to its piece.
func (p *Pool) cut(t int) {
	p.settleAbove(t)
	p.settle(t)
	s := p.slots[t]
	ahead, behind := s.left, p.between(none, t, s.right)
	for below, up := t, s.up; up != none; below, up = up, s.up {
		s = p.slots[up]
		if s.left == below {
			behind = p.between(behind, up, s.right)
		} else {
			ahead = p.between(s.left, up, ahead)
		}
	}
	p.crown(ahead)
	p.crown(behind)
}
