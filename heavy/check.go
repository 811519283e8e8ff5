package heavy

import (
	"arboretum/api"
	"arboretum/num"
)

// Check tells whether all is as the chapter has it; of nil it isn't.
func (f *Forest) Check() bool {
	// Paths can be made from nodes only if each way up ends, and what hangs can be added up only if the paths are right: so each is looked at behind the
	// one that it needs.
	return f != nil && f.listFits() && f.nodesFit() && f.placesFit() && f.sumsFit()
}

// listFits tells whether there is no more than there is room for, and slot none is there.
func (f *Forest) listFits() bool {
	return f.room <= api.MaxNodes && len(f.slots) >= 1 && len(f.slots)-1 <= f.room && f.slots[none] == slot{}
}

// nodesFit tells whether each parent is there, and has as many kids as it says, all ways up end, and nothing is kept of those whose nodes aren't there.
func (f *Forest) nodesFit() bool {
	there := 0
	kids := make([]int, len(f.slots))
	for t, s := range f.slots {
		if !s.isThere() {
			if s != (slot{}) {
				return false
			}
			continue
		}
		if f.find(s.parent-1) != s.parent {
			return false
		}
		there++
		if s.parent != none {
			kids[s.parent]++
		}
		kids[t] -= s.kids
	}
	for _, k := range kids {
		if k != 0 {
			return false
		}
	}
	// Of those whose way up goes round, none comes: each waits for another one of them.
	return len(f.order()) == there
}

// placesFit tells whether the paths are those that would be made anew from the parents; or, if they aren't ready, each node is a path by itself.
func (f *Forest) placesFit() bool {
	anew := &Forest{slots: make([]slot, len(f.slots))}
	for t, s := range f.slots {
		if s.isThere() {
			anew.slots[t] = alone(t, s.node)
		}
	}
	if f.ready {
		anew.makeReady()
	}
	for t, s := range f.slots {
		if s.place != anew.slots[t].place {
			return false
		}
	}
	return true
}

// sumsFit tells whether each slot tells of its part what that is.
func (f *Forest) sumsFit() bool {
	hangs := make([]int, len(f.slots))
	for t, s := range f.slots {
		if s.up != none && f.isTop(t) {
			hangs[s.up] += f.weighs(t)
		}
	}
	for t, s := range f.slots {
		if s.isThere() && !(s.hangs == hangs[t] && f.sumFits(t)) {
			return false
		}
	}
	return true
}

// sumFits tells whether t tells of its part what that is, all weights in it are weights, and nothing waits for nobody.
func (f *Forest) sumFits(t int) bool {
	s := f.slots[t]
	sum, hung := f.told(t)
	idle := s.wait == 0 || sum.Count > 1
	return s.sum == sum && s.hung == hung && num.Fits(sum.Min) && num.Fits(sum.Max) && idle
}
