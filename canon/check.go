package canon

import (
	"cmp"
	"slices"

	"arboretum/api"
	"arboretum/record"
)

// none is the place of a parent where there is none.
const none = -1

// Check tells whether l are the nodes of a forest.
func Check(l []api.Node) bool {
	if len(l) > api.MaxNodes || !haveRecords(l) || !rise(l) {
		return false
	}
	ups, ok := parents(l)
	return ok && !goRound(ups)
}

// haveRecords tells whether each of l has a record.
func haveRecords(l []api.Node) bool {
	for _, x := range l {
		if _, ok := record.Print(x); !ok {
			return false
		}
	}
	return true
}

// rise tells whether the Ids of l rise.
func rise(l []api.Node) bool {
	for i := 1; i < len(l); i++ {
		if l[i].Id <= l[i-1].Id {
			return false
		}
	}
	return true
}

// parents answers a list beside l, whose Ids rise, of the places in l of each one's parent, and true; nil and false, if the parent of one isn't among them.
func parents(l []api.Node) ([]int, bool) {
	ups := make([]int, len(l))
	for i, x := range l {
		if x.Up == -1 {
			ups[i] = none
			continue
		}
		at, ok := slices.BinarySearchFunc(l, x.Up, byId)
		if !ok {
			return nil, false
		}
		ups[i] = at
	}
	return ups, true
}

// byId compares the Id of x with id.
func byId(x api.Node, id int) int {
	return cmp.Compare(x.Id, id)
}

// goRound tells whether one of the ways up goes round.
func goRound(ups []int) bool {
	// Beside each place, the first walk that came by, numbered from 1 on: each walk ends where one was, so that all together go by each place once.
	walks := make([]int, len(ups))
	for i := range ups {
		walk, v := i+1, i
		for v != none && walks[v] == 0 {
			walks[v] = walk
			v = ups[v]
		}
		if v != none && walks[v] == walk {
			return true
		}
	}
	return false
}
