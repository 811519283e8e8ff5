package plain

import (
	"math"
	"math/rand"
	"testing"

	"arboretum/api"
)

// noNodes are numbers that are no nodes of a forest with room for n.
func noNodes(n int) []int {
	return []int{-1, -2, n, n + 1, -n - 1, most, most + 1, 1 << 32, 1<<32 + 1, -1 << 32, math.MaxInt32, math.MinInt32,
		math.MaxInt, math.MaxInt - 1, math.MinInt, math.MinInt + 1}
}

// noWeights are numbers that are no weights.
func noWeights() []int {
	return []int{end + 1, -end - 1, step, -step, 1 << 62, -1 << 62, math.MaxInt, math.MinInt}
}

// P5.1: New, at each end of what it takes.
func TestNew(t *testing.T) {
	for _, n := range []int{0, 1, 2, 1000, most - 1, most} {
		f := New(n)
		if f == nil || !f.Check() {
			t.Fatalf("New(%d): got %+v, and Check %v", n, f, f.Check())
		}
		for _, v := range []int{-1, 0, n - 1, n, math.MinInt, math.MaxInt} {
			if f.Has(v) || f.Root(v) != -1 || f.Size(v) != 0 {
				t.Errorf("New(%d): %d is there", n, v)
			}
		}
		if f.Add(n, 0) || f.Add(-1, 0) || f.Has(n) {
			t.Errorf("New(%d): room for node %d or -1", n, n)
		}
		if n > 0 && !(f.Add(n-1, 7) && f.Has(n-1) && f.Add(0, 8) == (n > 1) && f.Check()) {
			t.Errorf("New(%d): no room for nodes 0 and %d", n, n-1)
		}
	}
	for _, n := range []int{-1, -2, -most, most + 1, 1 << 21, 1 << 32, 1<<32 + 1, math.MaxInt32, math.MinInt32, math.MaxInt, math.MinInt} {
		if f := New(n); f != nil {
			t.Errorf("New(%d): got a forest, want nil", n)
		}
	}
}

// P5.1: a forest with room for nothing refuses all.
func TestNoRoom(t *testing.T) {
	x := newBoth(t, 0)
	x.add(0, 0, false)
	x.same()
}

// P5.1: the chapter's example.
func TestExample(t *testing.T) {
	f := New(3)
	if !f.Add(0, 5) || !f.Add(1, 7) || !f.Add(2, -1) || !f.Link(1, 0) || !f.Link(2, 1) {
		t.Fatal("not made")
	}
	want := api.Sum{Count: 3, Sum: 11, Min: -1, Max: 7}
	if got, ok := f.Path(0, 2); !ok || got != want {
		t.Errorf("Path(0, 2): got %+v, %v, want %+v", got, ok, want)
	}
	if !f.Evert(2) || f.Parent(0) != 1 || f.Parent(1) != 2 || f.Parent(2) != -1 {
		t.Errorf("behind Evert(2): parents %d, %d, %d", f.Parent(0), f.Parent(1), f.Parent(2))
	}
	if got, ok := f.Path(0, 2); !ok || got != want {
		t.Errorf("Path(0, 2) behind Evert(2): got %+v, %v, want %+v", got, ok, want)
	}
}

// P5.1: each answer, written out by hand.
func TestByHand(t *testing.T) {
	f := grown(t).f
	for _, c := range []struct{ a, b, lca int }{
		{5, 4, 1}, {4, 5, 1}, {5, 2, 0}, {5, 3, 3}, {3, 5, 3}, {5, 0, 0}, {4, 4, 4}, {0, 0, 0}, {7, 6, 6}, {9, 9, 9},
		{5, 7, -1}, {9, 0, -1}, {8, 8, -1}, {8, 0, -1}, {0, 8, -1},
	} {
		if got := f.Lca(c.a, c.b); got != c.lca {
			t.Errorf("Lca(%d, %d): got %d, want %d", c.a, c.b, got, c.lca)
		}
		if got := f.Same(c.a, c.b); got != (c.lca >= 0) {
			t.Errorf("Same(%d, %d): got %v", c.a, c.b, got)
		}
	}
	for _, c := range []struct{ v, root, parent, count, weighs, size int }{
		{0, 0, -1, 6, 132, 6}, {1, 0, 0, 4, 118, 6}, {2, 0, 0, 1, 17, 6}, {3, 0, 1, 2, 74, 6}, {5, 0, 3, 1, 47, 6},
		{6, 6, -1, 2, 124, 2}, {7, 6, 6, 1, 67, 2}, {9, 9, -1, 1, 87, 1}, {8, -1, -1, 0, 0, 0},
	} {
		count, weighs, ok := f.Sub(c.v)
		if count != c.count || weighs != c.weighs || ok != (c.count > 0) {
			t.Errorf("Sub(%d): got %d, %d, %v, want %d, %d", c.v, count, weighs, ok, c.count, c.weighs)
		}
		if r, p, s := f.Root(c.v), f.Parent(c.v), f.Size(c.v); r != c.root || p != c.parent || s != c.size {
			t.Errorf("%d: root %d, parent %d, size %d, want %d, %d, %d", c.v, r, p, s, c.root, c.parent, c.size)
		}
	}
	want := api.Sum{Count: 5, Sum: -3 + 7 + 27 + 47 + 17, Min: -3, Max: 47}
	if got, ok := f.Path(5, 2); !ok || got != want {
		t.Errorf("Path(5, 2): got %+v, %v, want %+v", got, ok, want)
	}
}

// P5.1: numbers that are no nodes are refused by every call, and nothing is changed.
func TestNoNode(t *testing.T) {
	x := grown(t)
	for _, v := range append(noNodes(10), 8) {
		x.add(v, end+1, false)
		if v != 8 {
			x.add(v, 1, false)
		}
		x.drop(v, false)
		x.link(v, 0, false)
		x.link(9, v, false)
		x.link(v, v, false)
		x.cut(v, false)
		x.evert(v, false)
		x.set(v, 1, false)
		x.pathAdd(v, 0, 1, false)
		x.pathAdd(0, v, 1, false)
		x.pathAdd(v, v, 1, false)
		wantNode(t, x.f, x.m, v)
		wantPair(t, x.f, x.m, v, 0)
		wantPair(t, x.f, x.m, 0, v)
		wantPair(t, x.f, x.m, v, v)
	}
	x.same()
}

// P5.1: the first and the last node are nodes as others are.
func TestFirstAndLast(t *testing.T) {
	for _, n := range []int{1, 2, 3, 17} {
		x := newBoth(t, n)
		last := n - 1
		x.add(last, -4, true)
		x.same()
		if n > 1 {
			x.add(0, 6, true)
			x.link(0, last, true)
			x.same()
			x.evert(0, true)
			x.pathAdd(0, last, 2, true)
			x.same()
			x.cut(last, true)
			x.drop(0, true)
		}
		x.set(last, 9, true)
		x.same()
		x.drop(last, true)
		x.same()
	}
}

// P5.1: Add refuses what is there and what is no weight, and leaves all as it was.
func TestAddRefused(t *testing.T) {
	x := grown(t)
	for _, v := range []int{0, 1, 5, 7, 9} {
		x.add(v, 1, false)
		x.add(v, x.m.weight[v], false)
	}
	for _, w := range noWeights() {
		x.add(8, w, false)
		x.add(0, w, false)
	}
	x.same()
	x.add(8, 3, true)
	x.same()
}

// P5.1: weights at their ends are taken, one past them are not, by Add and Set.
func TestWeights(t *testing.T) {
	x := newBoth(t, 4)
	for v, w := range []int{end, -end, 0, end - 1} {
		x.add(v, w, true)
	}
	x.same()
	for v := range 4 {
		for _, w := range noWeights() {
			x.set(v, w, false)
		}
	}
	x.same()
	for _, w := range []int{-end, end, 0, 1, -1, 1 - end} {
		x.set(0, w, true)
		x.same()
	}
}

// P5.1: Drop takes a root alone; one with a parent, or with kids, stays.
func TestDrop(t *testing.T) {
	x := grown(t)
	for _, v := range []int{0, 1, 2, 3, 4, 5, 6, 7} {
		x.drop(v, false)
	}
	x.same()
	x.drop(9, true)
	x.drop(9, false)
	x.same()
	x.cut(7, true)
	x.drop(6, true)
	x.drop(7, true)
	x.same()
	x.cut(5, true)
	x.drop(3, false)
	x.drop(5, true)
	x.same()
}

// P5.1: a node that goes comes again alone, with another weight.
func TestComesAgain(t *testing.T) {
	x := grown(t)
	for _, w := range []int{-5, end, -end, 0} {
		x.drop(9, true)
		x.add(9, w, true)
		x.same()
		x.link(9, 5, true)
		x.same()
		x.drop(9, false)
		x.cut(9, true)
	}
	x.evert(7, true)
	x.cut(6, true)
	x.drop(7, true)
	x.same()
	x.add(7, 1, true)
	x.same()
}

// P5.1: Link refuses one that has a parent, itself, one below itself, and its own tree.
func TestLinkRefused(t *testing.T) {
	x := grown(t)
	for _, l := range [][2]int{
		{1, 6}, {5, 9}, {7, 0}, {1, 0}, // c has a parent
		{0, 0}, {9, 9}, {6, 6}, {1, 1}, // itself
		{0, 1}, {0, 5}, {0, 2}, {6, 7}, // below itself
		{2, 4}, {5, 2}, {4, 0}, // in one tree, and no root
		{8, 0}, {0, 8}, {8, 9}, // not there
	} {
		x.link(l[0], l[1], false)
		x.same()
	}
	x.link(9, 5, true)
	x.link(0, 7, true)
	x.same()
	x.link(6, 9, false)
	x.same()
}

// P5.1: Cut refuses a root, and what isn't there; a node that was cut off is one.
func TestCut(t *testing.T) {
	x := grown(t)
	for _, v := range []int{0, 6, 9, 8} {
		x.cut(v, false)
	}
	x.same()
	x.cut(1, true)
	x.cut(1, false)
	x.same()
	x.link(1, 7, true)
	x.same()
}

// P5.1: Evert turns the way up round, and leaves the rest of the tree alone; again, it changes nothing.
func TestEvert(t *testing.T) {
	x := grown(t)
	for _, v := range []int{5, 5, 4, 0, 0, 2, 7, 6, 9, 3} {
		x.evert(v, true)
		x.same()
	}
	f := grown(t).f
	f.Evert(5)
	for v, want := range []int{1, 3, 0, 5, 1, -1, -1, 6, -1, -1} {
		if got := f.Parent(v); got != want {
			t.Errorf("behind Evert(5): parent of %d: got %d, want %d", v, got, want)
		}
	}
}

// P5.1: a way of one node.
func TestWayOfOne(t *testing.T) {
	x := grown(t)
	for _, v := range []int{0, 1, 5, 7, 9} {
		w := x.m.weight[v]
		if got, ok := x.f.Path(v, v); !ok || got != (api.Sum{Count: 1, Sum: w, Min: w, Max: w}) {
			t.Errorf("Path(%d, %d): got %+v, %v", v, v, got, ok)
		}
		x.pathAdd(v, v, 100, true)
		x.pathAdd(v, v, 0, true)
		x.same()
		x.pathAdd(v, v, end-x.m.weight[v], true)
		x.pathAdd(v, v, 1, false)
		x.pathAdd(v, v, -step, true)
		x.pathAdd(v, v, -1, false)
		x.pathAdd(v, v, step, true)
		x.same()
	}
}

// P5.1: nodes of two trees have no way, and nothing is raised.
func TestNoWay(t *testing.T) {
	x := grown(t)
	for _, p := range [][2]int{{0, 6}, {6, 0}, {5, 7}, {9, 5}, {7, 9}, {0, 8}, {8, 8}} {
		for _, by := range []int{0, 1, -1, end, math.MaxInt, math.MinInt} {
			x.pathAdd(p[0], p[1], by, false)
		}
		if s, ok := x.f.Path(p[0], p[1]); ok || s != (api.Sum{}) {
			t.Errorf("Path(%d, %d): got %+v, %v, want none", p[0], p[1], s, ok)
		}
	}
	x.same()
}

// P5.1: where one weight of a way can't be raised, none is: wherever on the way it is, and to whichever end.
func TestPathAddAllOrNone(t *testing.T) {
	way := []int{5, 3, 1, 0, 2}
	for _, v := range way {
		x := grown(t)
		x.set(v, end, true)
		for _, p := range [][2]int{{5, 2}, {2, 5}} {
			x.pathAdd(p[0], p[1], 1, false)
			x.pathAdd(p[0], p[1], end, false)
			x.same()
			x.pathAdd(p[0], p[1], -1, true)
			x.pathAdd(p[0], p[1], 1, true)
			x.same()
		}
		x.set(v, -end, true)
		for _, p := range [][2]int{{5, 2}, {2, 5}} {
			x.pathAdd(p[0], p[1], -1, false)
			x.pathAdd(p[0], p[1], -end, false)
			x.same()
			x.pathAdd(p[0], p[1], 1, true)
			x.pathAdd(p[0], p[1], -1, true)
			x.same()
		}
	}
}

// P5.1: by how much a way may be raised, at its ends and past them.
func TestPathAddBy(t *testing.T) {
	x := newBoth(t, 3)
	for v := range 3 {
		x.add(v, -end, true)
	}
	x.link(1, 0, true)
	x.link(2, 0, true)
	for _, by := range []int{-1, step + 1, math.MaxInt, math.MinInt, math.MaxInt - end, 1 << 62, -1 << 62} {
		x.pathAdd(1, 2, by, false)
	}
	x.same()
	x.pathAdd(1, 2, step, true)
	x.same()
	for _, by := range []int{1, -step - 1, math.MaxInt, math.MinInt, math.MinInt + end} {
		x.pathAdd(1, 2, by, false)
	}
	x.same()
	x.pathAdd(1, 2, -step, true)
	x.pathAdd(1, 0, end, true)
	x.pathAdd(0, 2, 1, true)
	x.same()
}

// P5.1: on a nil forest nothing is there, and nothing is done: every method.
func TestNil(t *testing.T) {
	var f *Forest
	for _, v := range append(noNodes(0), 0, 1, 7) {
		for _, w := range []int{0, 1, end, math.MinInt, math.MaxInt} {
			if f.Add(v, w) || f.Set(v, w) || f.PathAdd(v, v, w) || f.PathAdd(v, 0, w) {
				t.Errorf("%d, %d: something is done", v, w)
			}
		}
		if f.Has(v) || f.Drop(v) || f.Same(v, v) || f.Link(v, 0) || f.Link(0, v) || f.Cut(v) || f.Evert(v) {
			t.Errorf("%d: it is there", v)
		}
		if f.Root(v) != -1 || f.Parent(v) != -1 || f.Lca(v, v) != -1 || f.Size(v) != 0 {
			t.Errorf("%d: root %d, parent %d, lca %d, size %d", v, f.Root(v), f.Parent(v), f.Lca(v, v), f.Size(v))
		}
		if w, ok := f.Get(v); w != 0 || ok {
			t.Errorf("Get(%d): got %d, %v", v, w, ok)
		}
		if s, ok := f.Path(v, v); s != (api.Sum{}) || ok {
			t.Errorf("Path(%d, %d): got %+v, %v", v, v, s, ok)
		}
		if c, w, ok := f.Sub(v); c != 0 || w != 0 || ok {
			t.Errorf("Sub(%d): got %d, %d, %v", v, c, w, ok)
		}
	}
	if f.Check() {
		t.Error("Check: got true")
	}
}

// Rule 4: what is done to one forest, another one doesn't know.
func TestApart(t *testing.T) {
	x, y := grown(t), grown(t)
	x.evert(5, true)
	x.set(0, 99, true)
	x.cut(0, true)
	x.drop(9, true)
	x.same()
	y.same()
}

// P5.1: Check is false of what the chapter doesn't have, and ends there too.
func TestCheckOfBroken(t *testing.T) {
	for what, spoil := range map[string]func(f *Forest){
		"a parent that isn't there":      func(f *Forest) { f.parents[9] = 8 },
		"a parent past the nodes":        func(f *Forest) { f.parents[9] = 10 },
		"a parent at an end of int":      func(f *Forest) { f.parents[9] = math.MaxInt },
		"a parent at the other end":      func(f *Forest) { f.parents[9] = math.MinInt },
		"a node that is its own parent":  func(f *Forest) { f.parents[9] = 9 },
		"two that are below each other":  func(f *Forest) { f.parents[6] = 7 },
		"a root below its own tree":      func(f *Forest) { f.parents[0] = 5 },
		"a weight past its end":          func(f *Forest) { f.weights[4] = end + 1 },
		"a root's weight past its end":   func(f *Forest) { f.weights[0] = -end - 1 },
		"a weight of a node that's gone": func(f *Forest) { f.weights[8] = 1 },
		"a parent that went":             func(f *Forest) { f.parents[6] = gone },
		"fewer weights than parents":     func(f *Forest) { f.weights = f.weights[:9] },
		"more weights than parents":      func(f *Forest) { f.weights = append(f.weights, 0) },
		"more nodes than room":           func(f *Forest) { f.room = 9 },
		"room below none":                func(f *Forest) { f.room = -1 },
		"room past the limit":            func(f *Forest) { f.room = most + 1 },
	} {
		f := grown(t).f
		if spoil(f); f.Check() {
			t.Errorf("Check of %s: got true", what)
		}
	}
}

// P10, P5.1: a forest with all its nodes, each weight at its end: a line, then a star.
func TestFull(t *testing.T) {
	f := New(most)
	for v := range most {
		if !f.Add(v, end) {
			t.Fatalf("Add(%d): no room", v)
		}
	}
	if f.Add(most, 0) || f.Add(0, 0) {
		t.Fatal("room for one more")
	}
	for v := range most - 1 {
		if !f.Link(v, v+1) {
			t.Fatalf("Link(%d, %d): refused", v, v+1)
		}
	}
	whole := api.Sum{Count: most, Sum: most * end, Min: end, Max: end}
	wantWhole := func(a, b int) {
		t.Helper()
		if s, ok := f.Path(a, b); !ok || s != whole {
			t.Fatalf("Path(%d, %d): got %+v, %v", a, b, s, ok)
		}
		if c, w, ok := f.Sub(f.Root(a)); !ok || c != most || w != whole.Sum || f.Size(b) != most {
			t.Fatalf("Sub of the root: got %d, %d, %v", c, w, ok)
		}
	}
	wantWhole(0, most-1)
	if c, w, ok := f.Sub(most / 2); !ok || c != most/2+1 || w != (most/2+1)*end {
		t.Fatalf("Sub of the middle: got %d, %d, %v", c, w, ok)
	}
	if !f.Evert(0) || f.Root(most-1) != 0 || f.Link(0, most-1) || f.PathAdd(0, most-1, 1) {
		t.Fatal("the line turned round")
	}
	wantWhole(most-1, 0)
	if !f.PathAdd(0, most-1, -step) {
		t.Fatal("not raised from end to end")
	}
	whole.Sum, whole.Min, whole.Max = -whole.Sum, -end, -end
	wantWhole(0, most-1)
	for v := most - 1; v > 1; v-- {
		if !f.Cut(v) || !f.Link(v, 0) {
			t.Fatalf("%d can't be taken to the star", v)
		}
	}
	if c, w, _ := f.Sub(0); c != most || w != whole.Sum || f.Lca(1, most-1) != 0 || !f.Check() {
		t.Fatalf("the star: Sub(0) is %d, %d", c, w)
	}
	if s, ok := f.Path(1, most-1); !ok || s != (api.Sum{Count: 3, Sum: -3 * end, Min: -end, Max: -end}) {
		t.Fatalf("the star's way: got %+v, %v", s, ok)
	}
}

// P5.1, P5.2: a line and a star of which every node is made the root.
func TestLineAndStar(t *testing.T) {
	const n = 40
	line, star := newBoth(t, n), newBoth(t, n)
	for v := range n {
		line.add(v, v*v-700, true)
		star.add(v, 300-v*v, true)
		if v > 0 {
			line.link(v, v-1, true)
			star.link(v, 0, true)
		}
	}
	for i := range n {
		v := i * 13 % n
		line.evert(v, true)
		star.evert(v, true)
		if i%8 == 0 {
			line.same()
			star.same()
		}
	}
	line.cut(line.f.Parent(0), line.f.Parent(line.f.Parent(0)) != -1)
	star.cut(0, star.f.Parent(0) != -1)
	line.same()
	star.same()
}

// P5.2: made the root, a node leaves its tree the same nodes, weights and ways.
func TestEvertLeaves(t *testing.T) {
	r := rand.New(rand.NewSource(52))
	for range 60 {
		const n = 12
		f := randomForest(r, n)
		before := waysOf(f, n)
		v := r.Intn(n)
		f.Evert(v)
		if f.Root(v) != v || f.Parent(v) != -1 {
			t.Fatalf("Evert(%d): root %d", v, f.Root(v))
		}
		if waysOf(f, n) != before {
			t.Fatalf("Evert(%d) changed a way", v)
		}
	}
}

// P5.2: what is cut off takes just its subtree with it.
func TestCutTakes(t *testing.T) {
	r := rand.New(rand.NewSource(53))
	for range 200 {
		const n = 12
		f := randomForest(r, n)
		c := r.Intn(n)
		var below, beside [n]bool
		for v := range n {
			below[v] = f.Lca(v, c) == c
			beside[v] = f.Same(v, c) && !below[v]
		}
		root, size := f.Root(c), f.Size(c)
		count, _, _ := f.Sub(c)
		if f.Cut(c) != (root != c) {
			t.Fatalf("Cut(%d), of root %d", c, root)
		}
		for v := range n {
			if f.Same(v, c) != below[v] || f.Same(v, root) != (beside[v] || root == c && below[v]) {
				t.Fatalf("Cut(%d): %d went to the wrong tree", c, v)
			}
		}
		if f.Size(c) != count || root != c && f.Size(root) != size-count {
			t.Fatalf("Cut(%d): sizes %d and %d, from %d and %d", c, f.Size(c), f.Size(root), count, size)
		}
	}
}

// randomForest has all its n nodes, in one tree or several.
func randomForest(r *rand.Rand, n int) *Forest {
	f := New(n)
	for v := range n {
		f.Add(v, r.Intn(2001)-1000)
	}
	for v := 1; v < n; v++ {
		if r.Intn(5) > 0 {
			f.Link(v, r.Intn(v))
		}
	}
	return f
}

type ways struct {
	has, same [12][12]bool
	sums      [12][12]api.Sum
	weights   [12]int
	sizes     [12]int
}

// waysOf is all that P5.2 says stays as it is.
func waysOf(f *Forest, n int) ways {
	var w ways
	for a := range n {
		w.weights[a], _ = f.Get(a)
		w.sizes[a] = f.Size(a)
		for b := range n {
			w.sums[a][b], w.has[a][b] = f.Path(a, b)
			w.same[a][b] = f.Same(a, b)
		}
	}
	return w
}

// change does one thing at random to both, and holds the answers against each other.
func change(t *testing.T, r *rand.Rand, x *both) {
	t.Helper()
	n := len(x.m.there)
	a, b := r.Intn(n+2)-1, r.Intn(n+2)-1
	weights := []int{r.Intn(100) - 50, end, -end, end - 1, end + 1, -end - 1, 0, 1, -1, step, -step, step + 1, math.MinInt, math.MaxInt}
	w := weights[r.Intn(len(weights))]
	if r.Intn(3) > 0 {
		w = weights[0]
	}
	var got, want bool
	kind := r.Intn(9)
	switch kind {
	case 0, 1:
		got, want = x.f.Add(a, w), x.m.add(a, w)
	case 2:
		got, want = x.f.Drop(a), x.m.drop(a)
	case 3, 4:
		got, want = x.f.Link(a, b), x.m.link(a, b)
	case 5:
		got, want = x.f.Evert(a), x.m.evert(a)
	case 6:
		got, want = x.f.Set(a, w), x.m.set(a, w)
	case 7:
		got, want = x.f.Cut(a), x.m.cut(a)
	case 8:
		got, want = x.f.PathAdd(a, b, w), x.m.pathAdd(a, b, w)
	}
	if got != want {
		t.Fatalf("kind %d of %d, %d, %d: got %v, want %v", kind, a, b, w, got, want)
	}
}

// P5.1, P5.2: short runs in small forests, all that is told looked at behind each step.
func TestRuns(t *testing.T) {
	r := rand.New(rand.NewSource(5))
	for i := range 300 {
		x := newBoth(t, 1+i%8)
		for range 60 {
			change(t, r, x)
			x.same()
		}
	}
}

// P5.1, P5.2: a long run in a greater one, looked at now and then.
func TestLongRun(t *testing.T) {
	r := rand.New(rand.NewSource(51))
	x := newBoth(t, 30)
	for i := range 6000 {
		change(t, r, x)
		if i%100 == 0 {
			x.same()
		}
	}
	x.same()
}
