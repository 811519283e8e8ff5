package plain

import (
	"arboretum/api"
	"arboretum/num"
)

// What is known of a node, while those at or below another one are looked for.
type place byte

const (
	unknown place = iota
	inside
	outside
)

// below answers for each node whether v, which must be there, is on its way up.
func (f *Forest) below(v int) []place {
	places := make([]place, len(f.parents))
	places[v] = inside
	for u := range places {
		if f.Has(u) {
			f.tell(places, u)
		}
	}
	return places
}

// tell finds the place of u, and of all on its way up: so no part of a way is walked for each node below it anew.
func (f *Forest) tell(places []place, u int) {
	top := u
	for places[top] == unknown && f.parents[top] != none {
		top = f.parents[top]
	}
	found := places[top]
	if found == unknown {
		found = outside
	}
	for ; u != none && places[u] == unknown; u = f.parents[u] {
		places[u] = found
	}
}

// listsFit tells whether there are no more nodes than there is room for, each with its parent and its weight.
func (f *Forest) listsFit() bool {
	return f.room <= api.MaxNodes && len(f.parents) <= f.room && len(f.weights) == len(f.parents)
}

// nodesFit tells whether each node has a weight that is one, and, if it has a parent, one that is there; and what is gone has nothing.
func (f *Forest) nodesFit() bool {
	for v, w := range f.weights {
		switch p := f.parents[v]; p {
		case gone:
			if w != 0 {
				return false
			}
		case none:
			if !num.Fits(w) {
				return false
			}
		default:
			if !num.Fits(w) || !f.Has(p) {
				return false
			}
		}
	}
	return true
}

// waysEnd tells whether each way up comes to a root, not back to where it was.
func (f *Forest) waysEnd() bool {
	// Each node has the mark of the walk that came to it first: a walk that meets its own mark goes round, one that meets an earlier mark is known to end.
	marks := make([]int, len(f.parents))
	for u := range marks {
		if !f.Has(u) {
			continue
		}
		walk, v := u+1, u
		for v != none && marks[v] == 0 {
			marks[v] = walk
			v = f.parents[v]
		}
		if v != none && marks[v] == walk {
			return false
		}
	}
	return true
}
