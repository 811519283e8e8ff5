package link

// isTop tells whether t is the top of its splay tree: then that of which it is, if any, has it neither left nor right.
func (f *Forest) isTop(t int) bool {
	up := &f.slots[f.slots[t].up]
	return up.left != t && up.right != t
}

// hold makes left and right the parts beside t, at which nothing waits. What t itself is part of is left to the caller.
func (f *Forest) hold(t, left, right int) {
	f.slots[t].left = left
	f.slots[t].right = right
	if left != none {
		f.slots[left].up = t
	}
	if right != none {
		f.slots[right].up = t
	}
	f.gather(t)
}

// rotate puts t above the slot of whose part it is; nothing may wait at either.
func (f *Forest) rotate(t int) {
	up := f.slots[t].up
	over := f.slots[up].up
	switch up {
	case f.slots[over].left:
		f.slots[over].left = t
	case f.slots[over].right:
		f.slots[over].right = t
	}
	if f.slots[up].left == t {
		f.hold(up, f.slots[t].right, f.slots[up].right)
		f.hold(t, f.slots[t].left, up)
	} else {
		f.hold(up, f.slots[up].left, f.slots[t].left)
		f.hold(t, up, f.slots[t].right)
	}
	f.slots[t].up = over
}

// splay makes t the top of its splay tree, and lets nothing wait at it.
// What waits further up than the slots that are rotated is for all of them alike, and may stay there till it is their turn.
func (f *Forest) splay(t int) {
	for !f.isTop(t) {
		up := f.slots[t].up
		if f.isTop(up) {
			f.settle(up)
			f.settle(t)
			f.rotate(t)
			return
		}
		over := f.slots[up].up
		f.settle(over)
		f.settle(up)
		f.settle(t)
		if (f.slots[over].left == up) == (f.slots[up].left == t) {
			f.rotate(up)
		} else {
			f.rotate(t)
		}
		f.rotate(t)
	}
	f.settle(t)
}

// prefer makes below, a path that hangs at t, or none, what t's path goes on with: what it went on with hangs at t from now on. t must be a top.
func (f *Forest) prefer(t, below int) {
	s := &f.slots[t]
	s.hangs = s.hangs.with(f.slots[s.right].whole()).without(f.slots[below].whole())
	s.right = below
	f.gather(t)
}

// expose makes the way from the root down to t a path, with t as its last node and at its top, above all of its tree.
// It answers where that way met the path of the root: of two that are exposed, one behind the other, the lowest one above both.
func (f *Forest) expose(t int) int {
	met := none
	for next := t; next != none; next = f.slots[next].up {
		f.splay(next)
		f.prefer(next, met)
		met = next
	}
	f.splay(t)
	return met
}

// first answers the slot of the upper end of t's part. It is made the top of its splay tree: so a long walk makes those to come shorter.
func (f *Forest) first(t int) int {
	for f.slots[t].left != none {
		f.settle(t)
		t = f.slots[t].left
	}
	f.splay(t)
	return t
}

// last answers the slot of the lower end of t's part, and makes it the top, as first does.
func (f *Forest) last(t int) int {
	for f.slots[t].right != none {
		f.settle(t)
		t = f.slots[t].right
	}
	f.splay(t)
	return t
}

// isRoot exposes t, and tells whether nothing is above it.
func (f *Forest) isRoot(t int) bool {
	f.expose(t)
	return f.slots[t].left == none
}

// attach lets c, the root of another tree, hang at p; both are exposed.
func (f *Forest) attach(c, p int) {
	f.slots[c].up = p
	f.slots[p].hangs = f.slots[p].hangs.with(f.slots[c].whole())
	f.gather(p)
}

// detach parts t, which is exposed, from all above it.
func (f *Forest) detach(t int) {
	f.slots[f.slots[t].left].up = none
	f.hold(t, none, f.slots[t].right)
}

// way makes the way between a and b a path by itself, and answers its top; none, if there is no way.
// a is the root behind that: it is for the caller to make the root of before the root again, which leaves all ways as they were.
func (f *Forest) way(a, b int) int {
	if !f.Same(a, b) {
		return none
	}
	f.Evert(a)
	f.expose(f.find(b))
	return f.find(b)
}
