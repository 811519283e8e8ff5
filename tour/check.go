package tour

import "arboretum/api"

// Check tells whether all is as the chapter has it; of nil it isn't.
func (f *Forest) Check() bool {
	if f == nil || f.room > api.MaxNodes || len(f.nodes) > f.room || f.tours == nil || !f.tours.Check() {
		return false
	}
	holders, ok := f.holders()
	return ok && f.toursFit(holders)
}

// holders answers for each pair of arcs the node that has it now (they go from node to node while tours are turned), and whether each node has a pair
// of its own.
func (f *Forest) holders() ([]int, bool) {
	holders := make([]int, len(f.nodes))
	held := make([]bool, len(f.nodes))
	for v, n := range f.nodes {
		pair := owner(n.down)
		if pair < 0 || pair >= len(held) || held[pair] {
			return nil, false
		}
		if down, up := arcs(pair); min(n.down, n.up) != down || max(n.down, n.up) != up {
			return nil, false
		}
		holders[pair], held[pair] = v, true
	}
	return holders, true
}

// toursFit tells whether each node that is there is met in the tour of a root, and the arcs of all others are nowhere.
func (f *Forest) toursFit(holders []int) bool {
	there, met := 0, 0
	for v, n := range f.nodes {
		if f.Has(v) {
			there++
		} else if n.parent != none {
			return false
		}
		if n.parent != none {
			continue
		}
		if f.tours.Has(n.down) || f.tours.Has(n.up) {
			return false
		}
		if f.Has(v) {
			w := walk{f: f, holders: holders, within: []int{v}}
			if !w.whole() {
				return false
			}
			met += w.met
		}
	}
	return there == met
}

// walk goes along the tour of a root.
type walk struct {
	f       *Forest
	holders []int
	within  []int // the nodes between whose arcs it is: the root, one of its kids, and so on
	met     int   // how many nodes it came to
}

// whole goes from end to end, and tells whether the tour begins with the root, and all is between the arcs where it must be.
func (w *walk) whole() bool {
	root := item(w.within[0])
	if w.f.tours.At(root, 0) != root {
		return false
	}
	for k := range w.f.tours.All(root).Count {
		if !w.step(w.f.tours.At(root, k)) {
			return false
		}
	}
	return len(w.within) == 1
}

// step goes on to x, and tells whether that may come here: the node within which the walk is, the arc up from it, or one down to a kid.
func (w *walk) step(x int) bool {
	last := len(w.within) - 1
	v := w.within[last]
	if x == item(v) {
		w.met++
		return true
	}
	if weight, _ := w.f.tours.Get(x); weight != 0 {
		return false
	}
	if x == w.f.nodes[v].up {
		w.within = w.within[:last]
		return true
	}
	kid, ok := w.kid(x)
	w.within = append(w.within, kid)
	return ok && w.f.nodes[kid].parent == v
}

// kid answers the node to which x is the arc down, and whether there is one.
func (w *walk) kid(x int) (int, bool) {
	if owner(x) >= len(w.holders) {
		return 0, false
	}
	kid := w.holders[owner(x)]
	return kid, w.f.nodes[kid].down == x
}
