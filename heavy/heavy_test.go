package heavy

import (
	"math"
	"math/bits"
	"math/rand"
	"slices"
	"testing"

	"arboretum/api"
)

// What every forest is promised to do is tested in package forests: here is when paths are made, and what they must be.

const (
	most = 1 << 20 // written out, not taken from api: how many nodes and which weights there may be is part of the promise
	end  = 1 << 40
)

// tree is a forest of one tree: each node but 0 below the one that above tells, which is less.
func tree(n int, above func(v int) int) *Forest {
	f := New(n)
	for v := range n {
		f.Add(v, 10*v-33)
		if v > 0 {
			f.Link(v, above(v))
		}
	}
	return f
}

func line(n int) *Forest {
	return tree(n, func(v int) int { return v - 1 })
}

// grown is a forest of three trees and a gap: 1 and 2 below 0, 3 and 4 below 1, 5 below 3; 7 below 6; 8 isn't there, 9 is a root alone.
func grown() *Forest {
	f := New(10)
	for v := range 10 {
		f.Add(v, 10*v-3)
	}
	for _, l := range [][2]int{{1, 0}, {2, 0}, {3, 1}, {4, 1}, {5, 3}, {7, 6}} {
		f.Link(l[0], l[1])
	}
	f.Drop(8)
	return f
}

// asks are all calls for which paths are needed.
func asks() map[string]func(f *Forest) {
	return map[string]func(f *Forest){
		"Root":    func(f *Forest) { f.Root(4) },
		"Same":    func(f *Forest) { f.Same(4, 7) },
		"Lca":     func(f *Forest) { f.Lca(4, 2) },
		"Path":    func(f *Forest) { f.Path(4, 2) },
		"PathAdd": func(f *Forest) { f.PathAdd(4, 2, 1) },
		"Sub":     func(f *Forest) { f.Sub(1) },
		"Size":    func(f *Forest) { f.Size(4) },
	}
}

// Paths are made anew when the shape has changed and something is asked: not ahead of that, and not without need.
func TestWhenMade(t *testing.T) {
	changes := map[string]func(f *Forest) bool{
		"Link":  func(f *Forest) bool { return f.Link(9, 5) },
		"Cut":   func(f *Forest) bool { return f.Cut(3) },
		"Evert": func(f *Forest) bool { return f.Evert(5) },
	}
	for what, change := range changes {
		for asked, ask := range asks() {
			f := grown()
			ask(f)
			if !f.ready || !f.Check() {
				t.Fatalf("%s: not made", asked)
			}
			if !change(f) || f.ready || !f.Check() {
				t.Errorf("%s: paths of another shape", what)
			}
			if ask(f); !f.ready || !f.Check() {
				t.Errorf("%s behind %s: not made", asked, what)
			}
		}
	}
}

// What neither changes the shape nor needs paths leaves them as they are, and so does what is refused.
func TestWhenNotMade(t *testing.T) {
	for what, call := range map[string]func(f *Forest) bool{
		"Has":               func(f *Forest) bool { return f.Has(3) },
		"Parent":            func(f *Forest) bool { return f.Parent(3) == 1 },
		"Get":               func(f *Forest) bool { w, ok := f.Get(3); return ok && w == 27 },
		"Set":               func(f *Forest) bool { return f.Set(3, 5) },
		"Add":               func(f *Forest) bool { return f.Add(8, 5) },
		"Drop":              func(f *Forest) bool { return f.Drop(9) },
		"Evert of a root":   func(f *Forest) bool { return f.Evert(0) },
		"Evert of nobody":   func(f *Forest) bool { return !f.Evert(8) },
		"Link of a kid":     func(f *Forest) bool { return !f.Link(3, 9) },
		"Link below itself": func(f *Forest) bool { return !f.Link(0, 4) },
		"Link to itself":    func(f *Forest) bool { return !f.Link(9, 9) },
		"Link to nobody":    func(f *Forest) bool { return !f.Link(9, 8) },
		"Link of nobody":    func(f *Forest) bool { return !f.Link(8, 9) },
		"Cut of a root":     func(f *Forest) bool { return !f.Cut(6) },
		"Cut of nobody":     func(f *Forest) bool { return !f.Cut(8) },
		"Drop of a parent":  func(f *Forest) bool { return !f.Drop(6) },
		"Drop of a kid":     func(f *Forest) bool { return !f.Drop(5) },
	} {
		for _, ready := range []bool{false, true} {
			f := grown()
			if ready {
				f.Root(0)
			}
			if f.ready != ready || !call(f) || f.ready != ready || !f.Check() {
				t.Errorf("%s: from %v to %v, Check: %v", what, ready, f.ready, f.Check())
			}
		}
	}
}

// nodes answers the nodes of t's part, from left to right.
func (f *Forest) nodes(t int) []int {
	if t == none {
		return nil
	}
	return slices.Concat(f.nodes(f.slots[t].left), []int{t - 1}, f.nodes(f.slots[t].right))
}

func (f *Forest) wantPaths(t *testing.T, want ...[]int) {
	t.Helper()
	var got [][]int
	for u, s := range f.slots {
		if s.isThere() && f.isTop(u) {
			got = append(got, f.nodes(u))
		}
	}
	slices.SortFunc(got, slices.Compare)
	if !slices.EqualFunc(got, want, slices.Equal) {
		t.Errorf("paths: got %v, want %v", got, want)
	}
	if !f.Check() {
		t.Error("Check: got false")
	}
}

// A path goes down from a node to the kid with the most nodes at or below it; those of the others begin there.
func TestPaths(t *testing.T) {
	f := grown()
	f.wantPaths(t, []int{0}, []int{1}, []int{2}, []int{3}, []int{4}, []int{5}, []int{6}, []int{7}, []int{9})
	f.Root(9)
	f.wantPaths(t, []int{0, 1, 3, 5}, []int{2}, []int{4}, []int{6, 7}, []int{9})
	f.Link(6, 4)
	f.Root(9)
	f.wantPaths(t, []int{0, 1, 4, 6, 7}, []int{2}, []int{3, 5}, []int{9})
	f.Evert(5)
	f.Root(9)
	f.wantPaths(t, []int{0, 2}, []int{5, 3, 1, 4, 6, 7}, []int{9})
	f.Cut(1)
	f.Add(8, 0)
	f.Drop(9)
	f.Root(1)
	f.wantPaths(t, []int{0, 2}, []int{1, 4, 6, 7}, []int{5, 3}, []int{8})
}

// shapes are trees of n nodes.
func shapes(n int) map[string]*Forest {
	r := rand.New(rand.NewSource(10))
	return map[string]*Forest{
		"a line":             line(n),
		"a star":             tree(n, func(int) int { return 0 }),
		"two kids each":      tree(n, func(v int) int { return (v - 1) / 2 }),
		"a line with twigs":  tree(n, func(v int) int { return max(0, v-1-v%2) }),
		"a line with a star": tree(n, func(v int) int { return min(v-1, n/2) }),
		"a star of lines":    tree(n, func(v int) int { return max(0, v-40) }),
		"anyhow":             tree(n, r.Intn),
		"anyhow, but deep":   tree(n, func(v int) int { return v - 1 - r.Intn(min(v, 3)) }),
	}
}

// amounts answers how much the part of each slot is: how many nodes are in it, or hang at it.
func (f *Forest) amounts() []int {
	own := make([]int, len(f.slots))
	for t, s := range f.slots {
		if s.isThere() {
			own[t]++
		}
		if s.isThere() && s.head == t {
			own[s.parent] += s.size
		}
	}
	all := make([]int, len(f.slots))
	var count func(t int) int
	count = func(t int) int {
		if t != none {
			all[t] = count(f.slots[t].left) + own[t] + count(f.slots[t].right)
		}
		return all[t]
	}
	for t, s := range f.slots {
		if s.isThere() && f.isTop(t) {
			count(t)
		}
	}
	return all
}

// Each path's tree is even by what hangs at its nodes: so a way up through all of them is short, whatever the tree is like.
func TestEven(t *testing.T) {
	const n = 3000
	for what, f := range shapes(n) {
		f.Evert(n / 3)
		if f.Size(0) != n {
			t.Fatalf("%s: %d nodes", what, f.Size(0))
		}
		all := f.amounts()
		for u, s := range f.slots {
			if 2*all[s.left] > all[u] || 2*all[s.right] > all[u] {
				t.Fatalf("%s: at %d, of %d: %d on the left, %d on the right", what, u-1, all[u], all[s.left], all[s.right])
			}
			steps := 0
			for v := u; v != none; v = f.slots[v].up {
				steps++
			}
			if steps > 2*bits.Len(n) {
				t.Fatalf("%s: %d steps up from %d", what, steps, u-1)
			}
		}
	}
}

// A way goes along few paths, and is handed on in few parts: all of it, each node once.
func TestParts(t *testing.T) {
	const n = 3000
	r := rand.New(rand.NewSource(11))
	for what, f := range shapes(n) {
		f.Evert(n / 2)
		for range 300 {
			a, b := r.Intn(n), r.Intn(n)
			want, _ := f.Path(a, b)
			stretches, parts, nodes := 0, 0, []int{}
			f.stretches(a+1, b+1, func(high, low int) { stretches++ })
			f.along(a+1, b+1, func(u int, whole bool) {
				parts++
				if whole {
					nodes = append(nodes, f.nodes(u)...)
				} else {
					nodes = append(nodes, u-1)
				}
			})
			if stretches > 2*bits.Len(n) || parts > 5*bits.Len(n) {
				t.Fatalf("%s, from %d to %d: %d stretches, %d parts", what, a, b, stretches, parts)
			}
			slices.Sort(nodes)
			if len(nodes) != want.Count || len(slices.Compact(nodes)) != want.Count {
				t.Fatalf("%s, from %d to %d: %d nodes, want %d", what, a, b, len(nodes), want.Count)
			}
		}
	}
}

// changed is how many slots of f differ from kept.
func (f *Forest) changed(kept []slot) int {
	count := 0
	for t, s := range f.slots {
		if s != kept[t] {
			count++
		}
	}
	return count
}

// However long a way is, few slots are written to when it is raised: the rest waits.
func TestWaits(t *testing.T) {
	const n = 1 << 12
	f := line(n)
	f.Root(0)
	kept := slices.Clone(f.slots)
	if !f.PathAdd(0, n-1, 5) || f.changed(kept) != 1 {
		t.Errorf("all of a line raised: %d slots changed", f.changed(kept))
	}
	kept = slices.Clone(f.slots)
	if !f.PathAdd(1, n-2, 5) || f.changed(kept) > 6*bits.Len(n) {
		t.Errorf("most of a line raised: %d slots changed", f.changed(kept))
	}
	for v := range n {
		by := 10
		if v == 0 || v == n-1 {
			by = 5
		}
		if w, ok := f.Get(v); !ok || w != 10*v-33+by {
			t.Fatalf("Get(%d): got %d, %v", v, w, ok)
		}
	}
	if !f.Check() {
		t.Error("Check: got false")
	}
}

// When the shape changes, nothing waits any more: each node is by itself, with its own weight.
func TestLoosened(t *testing.T) {
	f := grown()
	f.PathAdd(5, 0, 100)
	f.PathAdd(4, 2, 1000)
	f.PathAdd(7, 7, 7)
	f.Cut(3)
	for v, want := range []node{
		{none, 2, 1097}, {1, 1, 1107}, {1, 0, 1017}, {none, 1, 127}, {2, 0, 1037}, {4, 0, 147}, {none, 1, 57}, {7, 0, 74},
	} {
		if f.slots[v+1] != alone(v+1, want) {
			t.Errorf("%d: got %+v, want %+v by itself", v, f.slots[v+1], want)
		}
	}
	if !f.Check() {
		t.Error("Check: got false")
	}
}

// What hangs at a node by other paths, and nothing else, is counted there, also when it is raised or set later.
func TestHangs(t *testing.T) {
	f := grown()
	f.Root(0)
	want := func(what string, hangs ...int) {
		t.Helper()
		for v, w := range hangs {
			if got := f.slots[v+1].hangs; got != w {
				t.Errorf("%s: at %d hangs %d, want %d", what, v, got, w)
			}
		}
		if !f.Check() {
			t.Errorf("%s: Check: got false", what)
		}
	}
	want("made", 17, 37, 0, 0, 0, 0, 0, 0)
	f.PathAdd(2, 5, 100)
	want("raised", 117, 37, 0, 0, 0, 0, 0, 0)
	f.PathAdd(4, 4, 1000)
	want("raised alone", 117, 1037, 0, 0, 0, 0, 0, 0)
	f.Set(2, -8)
	want("set", -8, 1037, 0, 0, 0, 0, 0, 0)
	f.Set(3, 50)
	want("set on the path", -8, 1037, 0, 0, 0, 0, 0, 0)
}

// What is raised far below is told by all paths above.
func TestCarried(t *testing.T) {
	const n = 1 << 10
	f := tree(n, func(v int) int { return (v - 1) / 2 })
	_, whole, _ := f.Sub(0)
	r := rand.New(rand.NewSource(12))
	for i := range 500 {
		a, b, by := r.Intn(n), r.Intn(n), r.Intn(200)-100
		way, _ := f.Path(a, b)
		before, _ := f.Get(a)
		if !f.PathAdd(a, b, by) || !f.Set(a, before) {
			t.Fatalf("%d and %d: not raised", a, b)
		}
		whole += by * (way.Count - 1)
		if _, w, _ := f.Sub(0); w != whole || !f.Check() {
			t.Fatalf("step %d: the tree weighs %d, want %d", i, w, whole)
		}
	}
}

// In a long line, thousands of calls that leave the shape are done at once, and so is the line itself, from either end.
func TestLongLine(t *testing.T) {
	r := rand.New(rand.NewSource(13))
	f := line(most)
	for range 20000 {
		a, b := r.Intn(most), r.Intn(most)
		low, high := min(a, b), max(a, b)
		count := high - low + 1
		want := api.Sum{Count: count, Sum: count * (10*(low+high) - 66) / 2, Min: 10*low - 33, Max: 10*high - 33}
		if s, ok := f.Path(a, b); !ok || s != want {
			t.Fatalf("Path(%d, %d): got %+v, want %+v", a, b, s, want)
		}
		if f.Lca(a, b) != low || f.Root(a) != 0 || !f.Same(a, b) || f.Link(0, a) {
			t.Fatalf("%d and %d: lowest above both %d, root %d", a, b, f.Lca(a, b), f.Root(a))
		}
		if c, w, ok := f.Sub(a); !ok || c != most-a || w != c*(10*(a+most-1)-66)/2 {
			t.Fatalf("Sub(%d): got %d, %d, %v", a, c, w, ok)
		}
		if !f.PathAdd(a, b, 7) || !f.Set(a, 10*a-26) || !f.PathAdd(b, a, -7) {
			t.Fatalf("%d and %d: not raised", a, b)
		}
	}
	if !f.Check() {
		t.Error("Check: got false")
	}
}

// The slots of whole that are spoiled: the top of a path at which something waits, the two below it that are no tops, one that hangs at the top, one of
// a path by itself, and one whose node isn't there.
const top, leaf, other, hanging, lone, gone = 2, 4, 3, 5, 10, 9

// whole has the paths 5, 3, 1, 0, 2 (of which 1 is the top, 3 and 2 are leaves), 4, which hangs at 1, 6, 7 and 9; 8 isn't there.
func whole() *Forest {
	f := grown()
	f.Evert(5)
	f.PathAdd(5, 2, 8)
	return f
}

// move makes slot p the parent of slot t, and counts its kids, but leaves the paths alone.
func (f *Forest) move(t, p int) {
	if up := f.slots[t].parent; up != none {
		f.slots[up].kids--
	}
	f.slots[t].parent = p
	f.slots[p].kids++
}

// straighten makes the tree of the path 5, 3, 1, 0, 2 a list.
func (f *Forest) straighten() {
	f.PathAdd(5, 2, -8)
	f.settle(top)
	below := none
	for _, v := range []int{2, 0, 1, 3, 5} {
		f.hold(v+1, none, below)
		below = v + 1
	}
	f.slots[below].up = none
}

// branchOff lets the path from 5 on go on with 4, not with 0.
func (f *Forest) branchOff() {
	depth := make([]int, len(f.slots))
	for t, s := range f.slots {
		depth[t] = s.depth
	}
	f.loosen()
	f.ready = true
	heaviest := f.heaviest(f.order())
	heaviest[top] = hanging
	for _, v := range []int{0, 5, 6, 9} {
		f.lay(v+1, heaviest)
	}
	for t := range f.slots {
		f.slots[t].depth = depth[t]
	}
}

// gatherUp gathers from slot t on up to its top, as if that had no more to fit.
func (f *Forest) gatherUp(t int) {
	for f.gather(t); !f.isTop(t); f.gather(t) {
		t = f.slots[t].up
	}
}

func spoilNodes() map[string]func(f *Forest) {
	return map[string]func(f *Forest){
		"a parent that isn't there":         func(f *Forest) { f.slots[lone].parent = gone },
		"a parent past the slots":           func(f *Forest) { f.slots[lone].parent = len(f.slots) },
		"a parent below the slots":          func(f *Forest) { f.slots[lone].parent = -1 },
		"a parent at an end of int":         func(f *Forest) { f.slots[lone].parent = math.MinInt },
		"a parent at the other end":         func(f *Forest) { f.slots[lone].parent = math.MaxInt },
		"a parent that doesn't count it":    func(f *Forest) { f.slots[lone].parent = top },
		"a parent missing":                  func(f *Forest) { f.slots[hanging].parent = none },
		"a node as its own parent":          func(f *Forest) { f.move(lone, lone) },
		"a root below its own tree":         func(f *Forest) { f.move(6, hanging) },
		"two that are below each other":     func(f *Forest) { f.move(7, 8) },
		"more kids":                         func(f *Forest) { f.slots[top].kids++ },
		"fewer kids":                        func(f *Forest) { f.slots[top].kids-- },
		"kids of one that has none":         func(f *Forest) { f.slots[lone].kids++ },
		"fewer kids than none":              func(f *Forest) { f.slots[lone].kids-- },
		"kids at an end of int":             func(f *Forest) { f.slots[lone].kids = math.MinInt },
		"kids of another node":              func(f *Forest) { f.slots[top].kids--; f.slots[lone].kids++ },
		"another weight":                    func(f *Forest) { f.slots[leaf].weight++ },
		"another weight at the top":         func(f *Forest) { f.slots[top].weight-- },
		"another weight of one alone":       func(f *Forest) { f.slots[lone].weight++ },
		"a weight of one that is gone":      func(f *Forest) { f.slots[gone].weight = 1 },
		"a parent of one that is gone":      func(f *Forest) { f.slots[gone].parent = lone },
		"a kid of one that is gone":         func(f *Forest) { f.slots[gone].kids = 1 },
		"a size of one that is gone":        func(f *Forest) { f.slots[gone].size = 1 },
		"what hangs at one that is gone":    func(f *Forest) { f.slots[gone].hangs = 1 },
		"no count of one that is there":     func(f *Forest) { f.slots[lone].sum.Count = 0 },
		"a count below 0":                   func(f *Forest) { f.slots[lone].sum.Count = -1 },
		"one that is gone, but has nothing": func(f *Forest) { f.slots[hanging] = slot{} },
		"a slot none that is there":         func(f *Forest) { f.slots[none].sum.Count = 1 },
		"a slot none of a part":             func(f *Forest) { f.slots[none].up = top },
		"a slot none that is there alone":   func(f *Forest) { *f = Forest{slots: []slot{alone(none, node{})}} },
		"no slot none":                      func(f *Forest) { f.slots = nil },
		"more nodes than room":              func(f *Forest) { f.room = 9 },
		"room below none":                   func(f *Forest) { f.room = -1 },
		"room past the limit":               func(f *Forest) { f.room = most + 1 },
		"a weight past its end":             func(f *Forest) { f.slots[lone] = alone(lone, node{weight: end + 1}) },
		"a weight past its other end":       func(f *Forest) { f.slots[lone] = alone(lone, node{weight: -end - 1}) },
		"a weight at an end of int":         func(f *Forest) { f.slots[lone] = alone(lone, node{weight: math.MinInt}) },
	}
}

func spoilPaths() map[string]func(f *Forest) {
	return map[string]func(f *Forest){
		"another parent than a path's":      func(f *Forest) { f.move(hanging, 6) },
		"a parent more than paths have":     func(f *Forest) { f.move(lone, top) },
		"a path of two trees":               func(f *Forest) { f.slots[7].kids--; f.slots[8].parent = none },
		"another head":                      func(f *Forest) { f.slots[leaf].head = leaf },
		"no head":                           func(f *Forest) { f.slots[leaf].head = none },
		"a head at an end of int":           func(f *Forest) { f.slots[lone].head = math.MaxInt },
		"another depth":                     func(f *Forest) { f.slots[leaf].depth++ },
		"a depth of a root":                 func(f *Forest) { f.slots[lone].depth++ },
		"another size":                      func(f *Forest) { f.slots[leaf].size++ },
		"another size of one alone":         func(f *Forest) { f.slots[lone].size-- },
		"an up past the slots":              func(f *Forest) { f.slots[lone].up = len(f.slots) },
		"an up at an end of int":            func(f *Forest) { f.slots[lone].up = math.MinInt },
		"an up at the other end":            func(f *Forest) { f.slots[lone].up = math.MaxInt },
		"an up that isn't there":            func(f *Forest) { f.slots[lone].up = gone },
		"an up that is itself":              func(f *Forest) { f.slots[lone].up = lone },
		"a top below its own part":          func(f *Forest) { f.slots[top].up = leaf },
		"a path that hangs elsewhere":       func(f *Forest) { f.slots[hanging].up = leaf },
		"a path that hangs nowhere":         func(f *Forest) { f.slots[hanging].up = none },
		"a path that hangs and mustn't":     func(f *Forest) { f.slots[lone].up = leaf },
		"a left past the slots":             func(f *Forest) { f.slots[leaf].left = len(f.slots) },
		"a right below the slots":           func(f *Forest) { f.slots[leaf].right = -7 },
		"a left that isn't there":           func(f *Forest) { f.slots[lone].left = gone },
		"a slot left of itself":             func(f *Forest) { f.slots[leaf].left = leaf },
		"a slot of its own part":            func(f *Forest) { f.slots[lone].up, f.slots[lone].right = lone, lone },
		"one part on both sides":            func(f *Forest) { f.slots[top].right = f.slots[top].left },
		"parts the wrong way round":         func(f *Forest) { f.slots[top].left, f.slots[top].right = f.slots[top].right, f.slots[top].left },
		"a part left out":                   func(f *Forest) { f.slots[top].left = none },
		"a tree that isn't even":            func(f *Forest) { f.straighten() },
		"a path by way of fewer nodes":      func(f *Forest) { f.branchOff() },
		"paths that shouldn't be ready":     func(f *Forest) { f.ready = false },
		"paths that should be ready":        func(f *Forest) { f.loosen(); f.ready = true },
		"another count":                     func(f *Forest) { f.slots[top].sum.Count++ },
		"another sum":                       func(f *Forest) { f.slots[top].sum.Sum++ },
		"another sum of a leaf":             func(f *Forest) { f.slots[leaf].sum.Sum++ },
		"another least one":                 func(f *Forest) { f.slots[top].sum.Min-- },
		"another greatest one":              func(f *Forest) { f.slots[top].sum.Max++ },
		"more that waits":                   func(f *Forest) { f.slots[top].wait++ },
		"what waits for nobody":             func(f *Forest) { f.slots[leaf].wait = 1 },
		"what waits for nobody at one":      func(f *Forest) { f.slots[lone].wait = -1 },
		"less that waits":                   func(f *Forest) { f.slots[top].wait = 0 },
		"more that hangs":                   func(f *Forest) { f.slots[top].hangs++; f.slots[top].hung++ },
		"what hangs at nobody":              func(f *Forest) { f.slots[lone].hangs--; f.slots[lone].hung-- },
		"what hangs, not counted in a part": func(f *Forest) { f.slots[top].hung = 0 },
		"what hangs, counted in a leaf":     func(f *Forest) { f.slots[leaf].hung++ },
		"what hangs, counted below it":      func(f *Forest) { f.slots[other].hangs = f.slots[top].hangs; f.slots[top].hangs = 0; f.gatherUp(other) },
		"a weight raised past its end":      func(f *Forest) { f.slots[top].wait = end; f.gatherUp(top) },
		"a weight raised past its other end": func(f *Forest) {
			f.slots[top].wait = -end - 50
			f.gatherUp(top)
		},
		"a weight past its end, but for what waits": func(f *Forest) {
			f.slots[leaf].weight = end + 1
			f.slots[top].wait = -9
			f.gatherUp(leaf)
		},
	}
}

func spoilLoose() map[string]func(f *Forest) {
	return map[string]func(f *Forest){
		"paths that aren't ready":      func(f *Forest) { f.makeReady(); f.ready = false },
		"paths that should be ready":   func(f *Forest) { f.ready = true },
		"a path of two":                func(f *Forest) { f.slots[7].head = 8 },
		"a part of two":                func(f *Forest) { f.hold(7, none, 8) },
		"a depth":                      func(f *Forest) { f.slots[8].depth = 1 },
		"a size":                       func(f *Forest) { f.slots[7].size = 2 },
		"no size":                      func(f *Forest) { f.slots[8].size = 0 },
		"an up":                        func(f *Forest) { f.slots[8].up = 7 },
		"what hangs":                   func(f *Forest) { f.slots[7].hangs = 67; f.slots[7].hung = 67 },
		"what hangs, in the part only": func(f *Forest) { f.slots[7].hung = 67 },
		"what waits":                   func(f *Forest) { f.slots[7].wait = 1 },
		"another sum":                  func(f *Forest) { f.slots[7].sum.Sum++ },
	}
}

// P10.1: Check is false of what the chapter doesn't have, and ends there too: whether paths are ready or not.
func TestCheckOfBroken(t *testing.T) {
	wantBroken := func(what string, f *Forest, spoil func(f *Forest)) {
		t.Helper()
		if !f.Check() {
			t.Fatal("Check: got false of what is whole")
		}
		if spoil(f); f.Check() {
			t.Errorf("Check of %s: got true", what)
		}
	}
	f := whole()
	if f.slots[top].wait != 8 || f.slots[hanging].up != top || f.slots[leaf].size != 5 || f.slots[other].sum.Count != 1 {
		t.Fatalf("not as it is spoiled: %+v", f.slots)
	}
	for what, spoil := range spoilPaths() {
		wantBroken(what, whole(), spoil)
	}
	for what, spoil := range spoilNodes() {
		wantBroken(what, whole(), spoil)
		loose := whole()
		loose.loosen()
		wantBroken(what+", not ready", loose, spoil)
	}
	for what, spoil := range spoilLoose() {
		wantBroken(what, grown(), spoil)
	}
}
