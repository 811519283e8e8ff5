package heavy

// isTop tells whether t is the top of the tree of its path: then that of which it is, if any, has it neither left nor right.
func (f *Forest) isTop(t int) bool {
	up := &f.slots[f.slots[t].up]
	return up.left != t && up.right != t
}

// top answers the top of the tree of t's path.
func (f *Forest) top(t int) int {
	for !f.isTop(t) {
		t = f.slots[t].up
	}
	return t
}

// weighs answers what t's part, which is a whole path, and all that hangs at it weigh together.
func (f *Forest) weighs(t int) int {
	return f.slots[t].sum.Sum + f.slots[t].hung
}

// root answers the root of t, by the paths, which must be ready.
func (f *Forest) root(t int) int {
	for f.slots[t].up != none {
		t = f.slots[t].up
	}
	return f.slots[t].head
}

// isRootOf tells whether root, which has no parent, is that of t.
// It never makes the paths ready: the link that asks this would spoil them at once. Who has no kids is nobody's root but its own, so trees that grow node by
// node need no walks.
func (f *Forest) isRootOf(root, t int) bool {
	switch {
	case f.slots[root].kids == 0:
		return root == t
	case f.ready:
		return root == f.root(t)
	}
	for f.slots[t].parent != none {
		t = f.slots[t].parent
	}
	return root == t
}

// stretches hands to do each stretch of a path on the way between a and b, which are in one tree: its upper and its lower end.
// The upper end of the last one is the lowest node on the ways up of both.
func (f *Forest) stretches(a, b int, do func(high, low int)) {
	for f.slots[a].head != f.slots[b].head {
		if f.headDepth(a) < f.headDepth(b) {
			a, b = b, a
		}
		head := f.slots[a].head
		do(head, a)
		a = f.slots[head].parent
	}
	if f.slots[a].depth > f.slots[b].depth {
		a, b = b, a
	}
	do(a, b)
}

// headDepth is how many nodes are above the path of t.
func (f *Forest) headDepth(t int) int {
	return f.slots[f.slots[t].head].depth
}

// along hands to do all that is on the way between a and b, which are in one tree, in few parts.
func (f *Forest) along(a, b int, do func(t int, whole bool)) {
	f.stretches(a, b, func(high, low int) {
		f.between(high, low, do)
	})
}

// between hands to do all that is on a stretch of a path, in few parts, and tells the paths above what that has changed.
func (f *Forest) between(high, low int, do func(t int, whole bool)) {
	top := f.top(high)
	before := f.weighs(top)
	f.visit(top, f.slots[high].depth, f.slots[low].depth, do)
	f.carry(top, f.weighs(top)-before)
}

// downFrom hands to do all that is on the path of t from t on, in few parts; it may change nothing.
func (f *Forest) downFrom(t int, do func(t int, whole bool)) {
	// As deep as there are slots is no node.
	f.visit(f.top(t), f.slots[t].depth, len(f.slots), do)
}

// visit hands to do what is of t's part, which may be none, and neither less deep than from nor deeper than to: whole parts, where all of one is, else
// slots alone. Nothing waits above what do is handed. What do changes of a slot alone is gathered behind it, and so is all above; a whole part is do's own.
func (f *Forest) visit(t, from, to int, do func(t int, whole bool)) {
	s := f.slots[t]
	first, last := s.depth-f.slots[s.left].sum.Count, s.depth+f.slots[s.right].sum.Count
	if t == none || from > last || to < first {
		return
	}
	if from <= first && last <= to {
		do(t, true)
		return
	}
	f.settle(t)
	f.visit(s.left, from, to, do)
	if from <= s.depth && s.depth <= to {
		do(t, false)
	}
	f.visit(s.right, from, to, do)
	f.gather(t)
}

// carry tells all paths above that of which t is the top that what hangs there weighs more by by.
func (f *Forest) carry(t, by int) {
	if by == 0 {
		return
	}
	for up := f.slots[t].up; up != none; t, up = up, f.slots[up].up {
		if f.isTop(t) {
			f.slots[up].hangs += by
		}
		f.slots[up].hung += by
	}
}
