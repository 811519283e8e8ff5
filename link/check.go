package link

import (
	"arboretum/api"
	"arboretum/num"
)

// Check tells whether all is as the chapter has it; of nil it isn't.
func (f *Forest) Check() bool {
	// What hangs at a slot can be added up only if each one's up is a slot, so that is looked at first.
	return f != nil && f.listFits() && f.linksFit() && f.sumsFit()
}

// listFits tells whether there is no more than there is room for, and slot none is there.
func (f *Forest) listFits() bool {
	return f.room <= api.MaxNodes && len(f.slots) >= 1 && len(f.slots)-1 <= f.room && f.slots[none] == slot{}
}

// linksFit tells whether all slots know of those next to them, and those whose nodes aren't there of nothing.
func (f *Forest) linksFit() bool {
	for t, s := range f.slots {
		if s.sum.Count == 0 && s != (slot{}) {
			return false
		}
		if s.sum.Count != 0 && !(f.isUp(s.up) && f.isBeside(s.left, t) && f.isBeside(s.right, t)) {
			return false
		}
		if s.left == s.right && s.left != none {
			return false
		}
	}
	return true
}

// isUp tells whether t is none, or a slot whose node is there.
func (f *Forest) isUp(t int) bool {
	return t == none || f.find(t-1) == t
}

// isBeside tells whether kid is none, or a slot whose node is there, and which knows that it is of t's part.
func (f *Forest) isBeside(kid, t int) bool {
	return kid == none || f.find(kid-1) == kid && f.slots[kid].up == t
}

// sumsFit tells whether each slot counts what it must. Then no way up goes round: each slot counts one node more than all slots whose up it is.
func (f *Forest) sumsFit() bool {
	hangs := f.hanging()
	for t := 1; t < len(f.slots); t++ {
		if f.slots[t].sum.Count != 0 && !(f.slots[t].hangs == hangs[t] && f.sumFits(t)) {
			return false
		}
	}
	return true
}

// hanging adds up, for each slot, what hangs at it by other paths. (At none hang those of the roots.)
func (f *Forest) hanging() []mass {
	hangs := make([]mass, len(f.slots))
	for t, s := range f.slots {
		if f.isTop(t) {
			hangs[s.up] = hangs[s.up].with(s.whole())
		}
	}
	return hangs
}

// sumFits tells whether t tells of its part what that is, all weights in it are weights, and nothing waits for nobody.
func (f *Forest) sumFits(t int) bool {
	s := f.slots[t]
	left, right := f.slots[s.left], f.slots[s.right]
	beside := num.Join(left.sum, right.sum)
	all := num.Join(num.Lift(beside, s.wait), num.One(s.weight))
	if s.sum != all || !num.Fits(all.Min) || !num.Fits(all.Max) {
		return false
	}
	idle := s.wait == 0 && !s.turn
	return s.hung == s.hangs.with(left.hung).with(right.hung) && (idle || beside.Count > 0)
}
