package tour

// attach makes p the parent of c, which is the root of another tour: that, with c's arcs about it, becomes the last of what is below p.
func (f *Forest) attach(c, p int) {
	f.nodes[c].parent = p
	down, up := f.nodes[c].down, f.nodes[c].up
	f.tours.Add(down, 0)
	f.tours.Add(up, 0)
	f.tours.Join(down, item(c))
	f.tours.Join(item(c), up)
	// The arc up of a root isn't there: then nothing is cut, and nothing comes behind.
	end := f.nodes[p].up
	f.tours.Before(end)
	f.tours.Join(item(p), item(c))
	f.tours.Join(item(c), end)
}

// detach makes c, which has a parent, the root of a tour of its own.
func (f *Forest) detach(c int) {
	f.nodes[c].parent = none
	down, up := f.nodes[c].down, f.nodes[c].up
	first := f.tours.At(item(c), 0)
	f.tours.Before(down)
	f.cutBehind(down)
	f.tours.Before(up)
	f.tours.Join(first, f.cutBehind(up))
	f.tours.Drop(down)
	f.tours.Drop(up)
	f.turn(c)
}

// cutBehind cuts the tour of x behind it, and answers the item that stood there; -1, if none did: then nothing is cut.
func (f *Forest) cutBehind(x int) int {
	next := f.tours.At(x, f.tours.Rank(x)+1)
	f.tours.Before(next)
	return next
}

// turn lets the tour of v begin with v: what was ahead of it goes behind all the rest. That is the tour from v on, since a tour ends where it began.
func (f *Forest) turn(v int) {
	if first := f.tours.At(item(v), 0); f.tours.Before(item(v)) {
		f.tours.Join(item(v), first)
	}
}

// reverse makes each node on the way up from v the parent of the one above it. The arcs between the two stay where they are, but who went down by one
// of them goes up by it now. Those of the root, which stand in no tour, become those of v.
func (f *Forest) reverse(v int) {
	root := f.nodes[f.Root(v)]
	next := node{none, root.down, root.up}
	for v != none {
		was := f.nodes[v]
		f.nodes[v] = next
		next = node{v, was.up, was.down}
		v = was.parent
	}
}
