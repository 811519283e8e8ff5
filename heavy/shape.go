package heavy

import (
	"slices"
	"sort"
)

// makeReady makes the paths anew from the parents, if the shape has changed.
func (f *Forest) makeReady() {
	if f.ready {
		return
	}
	f.ready = true
	order := f.order()
	heaviest := f.heaviest(order)
	for _, t := range slices.Backward(order) {
		if up := f.slots[t].parent; up != none {
			f.slots[t].depth = f.slots[up].depth + 1
		}
	}
	for _, t := range order {
		if up := f.slots[t].parent; up == none || heaviest[up] != t {
			f.lay(t, heaviest)
		}
	}
}

// order answers all slots whose nodes are there, each behind those of its kids.
func (f *Forest) order() []int {
	order := make([]int, 0, len(f.slots))
	missing := make([]int, len(f.slots)) // how many kids of each are yet to come
	for t, s := range f.slots {
		missing[t] = s.kids
		if s.isThere() && s.kids == 0 {
			order = append(order, t)
		}
	}
	for i := 0; i < len(order); i++ {
		up := f.slots[order[i]].parent
		if up == none {
			continue
		}
		missing[up]--
		if missing[up] == 0 {
			order = append(order, up)
		}
	}
	return order
}

// heaviest counts the nodes at or below each one, and answers for each the kid with the most: its path goes on with that.
func (f *Forest) heaviest(order []int) []int {
	heaviest := make([]int, len(f.slots))
	for _, t := range order {
		up := f.slots[t].parent
		if up == none {
			continue
		}
		f.slots[up].size += f.slots[t].size
		if f.slots[t].size > f.slots[heaviest[up]].size {
			heaviest[up] = t
		}
	}
	return heaviest
}

// lay makes the path that begins with head, when all those that hang at it are made, and lets it hang where it must.
func (f *Forest) lay(head int, heaviest []int) {
	var path []int
	for t := head; t != none; t = heaviest[t] {
		f.slots[t].head = head
		path = append(path, t)
	}
	top := f.even(path, 0)
	if up := f.slots[head].parent; up != none {
		f.slots[top].up = up
		f.slots[up].hangs += f.weighs(top)
	}
}

// even puts a stretch of a path, below which there are as many nodes as below tells, into a tree, and answers its top. Of all that is on the stretch or
// hangs at it, neither side of the top has more than half, and so on further down: so a way up through the trees of all paths has few steps.
func (f *Forest) even(path []int, below int) int {
	if len(path) == 0 {
		return none
	}
	all := f.slots[path[0]].size - below
	middle := sort.Search(len(path)-1, func(i int) bool {
		return 2*(f.slots[path[i+1]].size-below) <= all
	})
	t := path[middle]
	f.hold(t, f.even(path[:middle], f.slots[t].size), f.even(path[middle+1:], below))
	return t
}

// loosen makes each node a path by itself, at which nothing waits: the shape is about to change.
func (f *Forest) loosen() {
	if !f.ready {
		return
	}
	f.ready = false
	for t, s := range f.slots {
		if s.isThere() && f.isTop(t) {
			f.takeApart(t)
		}
	}
}

// takeApart makes all slots of t's part, which may be none, paths by themselves; nothing may wait above t.
func (f *Forest) takeApart(t int) {
	if t == none {
		return
	}
	f.settle(t)
	s := f.slots[t]
	f.slots[t] = alone(t, s.node)
	f.takeApart(s.left)
	f.takeApart(s.right)
}

// reverse makes each node on the way up from t the parent of the one above it.
func (f *Forest) reverse(t int) {
	f.slots[t].kids++
	below := none
	for t != none {
		above := f.slots[t].parent
		f.slots[t].parent = below
		below, t = t, above
	}
	// All between the two have as many kids as before: the one above instead of the one below.
	f.slots[below].kids--
}
