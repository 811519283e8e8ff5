package forests

import (
	"math"
	"math/rand"
	"slices"
	"testing"

	"arboretum/api"
)

// noNodes are numbers that are no nodes of a forest with room for n.
func noNodes(n int) []int {
	// Taken three times, as the items of a tour are, these two wrap round to 1 and 2.
	const one, two = -(math.MaxInt/3*2 + 1), math.MaxInt/3*2 + 2
	return []int{-1, -2, n, n + 1, -n - 1, most, most + 1, 1 << 32, 1<<32 + 1, -1 << 32, math.MaxInt32, math.MinInt32,
		math.MaxInt, math.MaxInt - 1, math.MinInt, math.MinInt + 1, one, one + 1, one + 8, two, two + 1, two + 8}
}

// noWeights are numbers that are no weights.
func noWeights() []int {
	return []int{end + 1, -end - 1, step, -step, 1 << 62, -1 << 62, math.MaxInt, math.MinInt}
}

// P5.1, P8.1, P9.1, P10.1: New, at each end of what it takes.
func TestNew(t *testing.T) {
	each(t, func(t *testing.T, k kind) {
		for _, n := range []int{0, 1, 2, 1000, most - 1, most} {
			f := k.make(n)
			if f == nil {
				t.Fatalf("New(%d): got nil", n)
			}
			if !f.Check() {
				t.Fatalf("New(%d): Check: got false", n)
			}
			for _, v := range []int{-1, 0, n - 1, n, math.MinInt, math.MaxInt} {
				if f.Has(v) || f.Root(v) != -1 || f.Size(v) != 0 {
					t.Errorf("New(%d): %d is there", n, v)
				}
			}
			if f.Add(n, 0) || f.Add(-1, 0) || f.Has(n) {
				t.Errorf("New(%d): room for node %d or -1", n, n)
			}
			if n > 0 && !(f.Add(n-1, 7) && f.Has(n-1) && f.Add(0, 8) == (n > 1) && f.Check()) {
				t.Errorf("New(%d): no room for nodes 0 and %d", n, n-1)
			}
		}
		for _, n := range []int{-1, -2, -most, most + 1, 1 << 21, 1 << 32, 1<<32 + 1, math.MaxInt32, math.MinInt32, math.MaxInt, math.MinInt} {
			if f := k.make(n); f != nil {
				t.Errorf("New(%d): got a forest, want nil", n)
			}
		}
	})
}

// P5.1, P8.1, P9.1, P10.1: a forest with room for nothing refuses all.
func TestNoRoom(t *testing.T) {
	each(t, func(t *testing.T, k kind) {
		x := newBoth(t, k, 0)
		x.add(0, 0, false)
		x.same()
	})
}

// P5.1, P8.1, P9.1, P10.1: the chapter's example.
func TestExample(t *testing.T) {
	each(t, func(t *testing.T, k kind) {
		f := k.make(3)
		if !f.Add(0, 5) || !f.Add(1, 7) || !f.Add(2, -1) || !f.Link(1, 0) || !f.Link(2, 1) {
			t.Fatal("not made")
		}
		want := api.Sum{Count: 3, Sum: 11, Min: -1, Max: 7}
		if got, ok := f.Path(0, 2); !ok || got != want {
			t.Errorf("Path(0, 2): got %+v, %v, want %+v", got, ok, want)
		}
		if !f.Evert(2) || f.Parent(0) != 1 || f.Parent(1) != 2 || f.Parent(2) != -1 {
			t.Errorf("behind Evert(2): parents %d, %d, %d", f.Parent(0), f.Parent(1), f.Parent(2))
		}
		if got, ok := f.Path(0, 2); !ok || got != want {
			t.Errorf("Path(0, 2) behind Evert(2): got %+v, %v, want %+v", got, ok, want)
		}
	})
}

// P5.1, P8.1, P9.1, P10.1: each answer, written out by hand.
func TestByHand(t *testing.T) {
	each(t, func(t *testing.T, k kind) {
		f := grown(t, k).f
		for _, c := range []struct{ a, b, lca int }{
			{5, 4, 1}, {4, 5, 1}, {5, 2, 0}, {5, 3, 3}, {3, 5, 3}, {5, 0, 0}, {4, 4, 4}, {0, 0, 0}, {7, 6, 6}, {9, 9, 9},
			{5, 7, -1}, {9, 0, -1}, {8, 8, -1}, {8, 0, -1}, {0, 8, -1},
		} {
			if got := f.Lca(c.a, c.b); got != c.lca {
				t.Errorf("Lca(%d, %d): got %d, want %d", c.a, c.b, got, c.lca)
			}
			if got := f.Same(c.a, c.b); got != (c.lca >= 0) {
				t.Errorf("Same(%d, %d): got %v", c.a, c.b, got)
			}
		}
		for _, c := range []struct{ v, root, parent, count, weighs, size int }{
			{0, 0, -1, 6, 132, 6}, {1, 0, 0, 4, 118, 6}, {2, 0, 0, 1, 17, 6}, {3, 0, 1, 2, 74, 6}, {5, 0, 3, 1, 47, 6},
			{6, 6, -1, 2, 124, 2}, {7, 6, 6, 1, 67, 2}, {9, 9, -1, 1, 87, 1}, {8, -1, -1, 0, 0, 0},
		} {
			count, weighs, ok := f.Sub(c.v)
			if count != c.count || weighs != c.weighs || ok != (c.count > 0) {
				t.Errorf("Sub(%d): got %d, %d, %v, want %d, %d", c.v, count, weighs, ok, c.count, c.weighs)
			}
			if r, p, s := f.Root(c.v), f.Parent(c.v), f.Size(c.v); r != c.root || p != c.parent || s != c.size {
				t.Errorf("%d: root %d, parent %d, size %d, want %d, %d, %d", c.v, r, p, s, c.root, c.parent, c.size)
			}
		}
		want := api.Sum{Count: 5, Sum: -3 + 7 + 27 + 47 + 17, Min: -3, Max: 47}
		if got, ok := f.Path(5, 2); !ok || got != want {
			t.Errorf("Path(5, 2): got %+v, %v, want %+v", got, ok, want)
		}
	})
}

// P5.1, P8.1, P9.1, P10.1: numbers that are no nodes are refused by every call, and nothing is changed.
func TestNoNode(t *testing.T) {
	each(t, func(t *testing.T, k kind) {
		x := grown(t, k)
		for _, v := range append(noNodes(10), 8) {
			x.add(v, end+1, false)
			if v != 8 {
				x.add(v, 1, false)
			}
			x.drop(v, false)
			x.link(v, 0, false)
			x.link(9, v, false)
			x.link(v, v, false)
			x.cut(v, false)
			x.evert(v, false)
			x.set(v, 1, false)
			x.pathAdd(v, 0, 1, false)
			x.pathAdd(0, v, 1, false)
			x.pathAdd(v, v, 1, false)
			wantNode(t, x.f, x.m, v)
			wantPair(t, x.f, x.m, v, 0)
			wantPair(t, x.f, x.m, 0, v)
			wantPair(t, x.f, x.m, v, v)
		}
		x.same()
	})
}

// P5.1, P8.1, P9.1, P10.1: the first and the last node are nodes as others are.
func TestFirstAndLast(t *testing.T) {
	each(t, func(t *testing.T, k kind) {
		for _, n := range []int{1, 2, 3, 17} {
			x := newBoth(t, k, n)
			last := n - 1
			x.add(last, -4, true)
			x.same()
			if n > 1 {
				x.add(0, 6, true)
				x.link(0, last, true)
				x.same()
				x.evert(0, true)
				x.pathAdd(0, last, 2, true)
				x.same()
				x.cut(last, true)
				x.drop(0, true)
			}
			x.set(last, 9, true)
			x.same()
			x.drop(last, true)
			x.same()
		}
	})
}

// P5.1, P8.1, P9.1, P10.1: Add refuses what is there and what is no weight, and leaves all as it was.
func TestAddRefused(t *testing.T) {
	each(t, func(t *testing.T, k kind) {
		x := grown(t, k)
		for _, v := range []int{0, 1, 5, 7, 9} {
			x.add(v, 1, false)
			x.add(v, x.m.weight[v], false)
		}
		for _, w := range noWeights() {
			x.add(8, w, false)
			x.add(0, w, false)
		}
		x.same()
		x.add(8, 3, true)
		x.same()
	})
}

// P5.1, P8.1, P9.1, P10.1: weights at their ends are taken, one past them are not, by Add and Set.
func TestWeights(t *testing.T) {
	each(t, func(t *testing.T, k kind) {
		x := newBoth(t, k, 4)
		for v, w := range []int{end, -end, 0, end - 1} {
			x.add(v, w, true)
		}
		x.same()
		for v := range 4 {
			for _, w := range noWeights() {
				x.set(v, w, false)
			}
		}
		x.same()
		for _, w := range []int{-end, end, 0, 1, -1, 1 - end} {
			x.set(0, w, true)
			x.same()
		}
	})
}

// P5.1, P8.1, P9.1, P10.1: Drop takes a root alone; one with a parent, or with kids, stays.
func TestDrop(t *testing.T) {
	each(t, func(t *testing.T, k kind) {
		x := grown(t, k)
		for _, v := range []int{0, 1, 2, 3, 4, 5, 6, 7} {
			x.drop(v, false)
		}
		x.same()
		x.drop(9, true)
		x.drop(9, false)
		x.same()
		x.cut(7, true)
		x.drop(6, true)
		x.drop(7, true)
		x.same()
		x.cut(5, true)
		x.drop(3, false)
		x.drop(5, true)
		x.same()
	})
}

// P5.1, P8.1, P9.1, P10.1: a node that goes comes again alone, with another weight.
func TestComesAgain(t *testing.T) {
	each(t, func(t *testing.T, k kind) {
		x := grown(t, k)
		for _, w := range []int{-5, end, -end, 0} {
			x.drop(9, true)
			x.add(9, w, true)
			x.same()
			x.link(9, 5, true)
			x.same()
			x.drop(9, false)
			x.cut(9, true)
		}
		x.evert(7, true)
		x.cut(6, true)
		x.drop(7, true)
		x.same()
		x.add(7, 1, true)
		x.same()
	})
}

// P5.1, P8.1, P9.1, P10.1: Link refuses one that has a parent, itself, one below itself, and its own tree.
func TestLinkRefused(t *testing.T) {
	each(t, func(t *testing.T, k kind) {
		x := grown(t, k)
		for _, l := range [][2]int{
			{1, 6}, {5, 9}, {7, 0}, {1, 0}, // c has a parent
			{0, 0}, {9, 9}, {6, 6}, {1, 1}, // itself
			{0, 1}, {0, 5}, {0, 2}, {6, 7}, // below itself
			{2, 4}, {5, 2}, {4, 0}, // in one tree, and no root
			{8, 0}, {0, 8}, {8, 9}, // not there
		} {
			x.link(l[0], l[1], false)
			x.same()
		}
		x.link(9, 5, true)
		x.link(0, 7, true)
		x.same()
		x.link(6, 9, false)
		x.same()
	})
}

// P5.1, P8.1, P9.1, P10.1: Cut refuses a root, and what isn't there; a node that was cut off is one.
func TestCut(t *testing.T) {
	each(t, func(t *testing.T, k kind) {
		x := grown(t, k)
		for _, v := range []int{0, 6, 9, 8} {
			x.cut(v, false)
		}
		x.same()
		x.cut(1, true)
		x.cut(1, false)
		x.same()
		x.link(1, 7, true)
		x.same()
	})
}

// P5.1, P8.1, P9.1, P10.1: Evert turns the way up round, and leaves the rest of the tree alone; again, it changes nothing.
func TestEvert(t *testing.T) {
	each(t, func(t *testing.T, k kind) {
		x := grown(t, k)
		for _, v := range []int{5, 5, 4, 0, 0, 2, 7, 6, 9, 3} {
			x.evert(v, true)
			x.same()
		}
		f := grown(t, k).f
		f.Evert(5)
		for v, want := range []int{1, 3, 0, 5, 1, -1, -1, 6, -1, -1} {
			if got := f.Parent(v); got != want {
				t.Errorf("behind Evert(5): parent of %d: got %d, want %d", v, got, want)
			}
		}
	})
}

// P5.1, P8.1, P9.1, P10.1: a node that is cut off and linked where it was leaves all as it was; linked elsewhere, its subtree goes with it.
func TestCutAndBack(t *testing.T) {
	each(t, func(t *testing.T, k kind) {
		x := grown(t, k)
		for _, l := range [][2]int{{1, 0}, {2, 0}, {3, 1}, {4, 1}, {5, 3}, {7, 6}} {
			x.cut(l[0], true)
			x.link(l[0], l[1], true)
			x.same()
			x.cut(l[0], true)
			x.link(l[0], 9, true)
			x.same()
			x.cut(l[0], true)
			x.link(l[0], l[1], true)
		}
		x.same()
	})
}

// P5.1, P8.1, P9.1, P10.1: a way of one node.
func TestWayOfOne(t *testing.T) {
	each(t, func(t *testing.T, k kind) {
		x := grown(t, k)
		for _, v := range []int{0, 1, 5, 7, 9} {
			w := x.m.weight[v]
			if got, ok := x.f.Path(v, v); !ok || got != (api.Sum{Count: 1, Sum: w, Min: w, Max: w}) {
				t.Errorf("Path(%d, %d): got %+v, %v", v, v, got, ok)
			}
			x.pathAdd(v, v, 100, true)
			x.pathAdd(v, v, 0, true)
			x.same()
			x.pathAdd(v, v, end-x.m.weight[v], true)
			x.pathAdd(v, v, 1, false)
			x.pathAdd(v, v, -step, true)
			x.pathAdd(v, v, -1, false)
			x.pathAdd(v, v, step, true)
			x.same()
		}
	})
}

// P5.1, P8.1, P9.1, P10.1: nodes of two trees have no way, and nothing is raised.
func TestNoWay(t *testing.T) {
	each(t, func(t *testing.T, k kind) {
		x := grown(t, k)
		for _, p := range [][2]int{{0, 6}, {6, 0}, {5, 7}, {9, 5}, {7, 9}, {0, 8}, {8, 8}} {
			for _, by := range []int{0, 1, -1, end, math.MaxInt, math.MinInt} {
				x.pathAdd(p[0], p[1], by, false)
			}
			if s, ok := x.f.Path(p[0], p[1]); ok || s != (api.Sum{}) {
				t.Errorf("Path(%d, %d): got %+v, %v, want none", p[0], p[1], s, ok)
			}
		}
		x.same()
	})
}

// P5.1, P8.1, P9.1, P10.1: where one weight of a way can't be raised, none is: wherever on the way it is, and to whichever end.
func TestPathAddAllOrNone(t *testing.T) {
	each(t, func(t *testing.T, k kind) {
		way := []int{5, 3, 1, 0, 2}
		for _, v := range way {
			x := grown(t, k)
			x.set(v, end, true)
			for _, p := range [][2]int{{5, 2}, {2, 5}} {
				x.pathAdd(p[0], p[1], 1, false)
				x.pathAdd(p[0], p[1], end, false)
				x.same()
				x.pathAdd(p[0], p[1], -1, true)
				x.pathAdd(p[0], p[1], 1, true)
				x.same()
			}
			x.set(v, -end, true)
			for _, p := range [][2]int{{5, 2}, {2, 5}} {
				x.pathAdd(p[0], p[1], -1, false)
				x.pathAdd(p[0], p[1], -end, false)
				x.same()
				x.pathAdd(p[0], p[1], 1, true)
				x.pathAdd(p[0], p[1], -1, true)
				x.same()
			}
		}
	})
}

// P5.1, P8.1, P9.1, P10.1: by how much a way may be raised, at its ends and past them.
func TestPathAddBy(t *testing.T) {
	each(t, func(t *testing.T, k kind) {
		x := newBoth(t, k, 3)
		for v := range 3 {
			x.add(v, -end, true)
		}
		x.link(1, 0, true)
		x.link(2, 0, true)
		for _, by := range []int{-1, step + 1, math.MaxInt, math.MinInt, math.MaxInt - end, 1 << 62, -1 << 62} {
			x.pathAdd(1, 2, by, false)
		}
		x.same()
		x.pathAdd(1, 2, step, true)
		x.same()
		for _, by := range []int{1, -step - 1, math.MaxInt, math.MinInt, math.MinInt + end} {
			x.pathAdd(1, 2, by, false)
		}
		x.same()
		x.pathAdd(1, 2, -step, true)
		x.pathAdd(1, 0, end, true)
		x.pathAdd(0, 2, 1, true)
		x.same()
	})
}

// P5.1, P8.1, P9.1, P10.1: a way is raised, then turned round, cut, linked and asked: what was raised goes with its nodes alone.
func TestRaisedThenChanged(t *testing.T) {
	each(t, func(t *testing.T, k kind) {
		const n = 20
		for _, c := range []struct{ a, b, root, cut int }{
			{0, n - 1, n - 1, 9}, {n - 1, 0, 10, 3}, {4, 15, 15, 4}, {15, 4, 7, 7}, {4, 15, 16, 3}, {8, 8, 8, 9}, {0, 1, n - 1, 1}, {n - 1, 3, 0, n - 1},
		} {
			x := newBoth(t, k, n)
			for v := range n {
				x.add(v, 7*v-50, true)
				// A line with a twig at every fourth node.
				x.link(v, max(v-1-v%4/3, 0), v > 0)
			}
			x.pathAdd(c.a, c.b, 1000, true)
			x.evert(c.root, true)
			x.cut(c.cut, x.m.parent(c.cut) != -1)
			x.same()
			x.evert(c.cut, true)
			x.pathAdd(c.cut, x.m.lowest(c.cut), 30, true)
			x.link(c.cut, c.root, x.m.way(c.cut, c.root) == nil)
			x.pathAdd(c.a, c.cut, -1, x.m.way(c.a, c.cut) != nil)
			x.evert(c.a, true)
			x.set(c.b, 5, true)
			x.same()
		}
	})
}

// P5.1, P8.1, P9.1, P10.1: what is raised again and again, from end to end, while the tree is turned round.
func TestRaisedFromEndToEnd(t *testing.T) {
	each(t, func(t *testing.T, k kind) {
		const n = 12
		x := newBoth(t, k, n)
		for v := range n {
			x.add(v, -end, true)
			x.link(v, v-1, v > 0)
		}
		for i := range 3 * n {
			x.pathAdd(0, n-1, step-1, true)
			x.evert(i%n, true)
			x.pathAdd(n-1, 0, 1, true)
			x.pathAdd(0, n-1, 1, false)
			x.pathAdd(i%n, i*5%n, -7, true)
			x.evert(i*7%n, true)
			x.pathAdd(i*5%n, i%n, 7, true)
			x.pathAdd(0, n-1, -step, true)
			x.pathAdd(0, n-1, -1, false)
		}
		x.same()
	})
}

// P5.1, P8.1, P9.1, P10.1: on a nil forest nothing is there, and nothing is done: every method.
func TestNil(t *testing.T) {
	each(t, func(t *testing.T, k kind) {
		f := k.none
		for _, v := range append(noNodes(0), 0, 1, 7) {
			for _, w := range []int{0, 1, end, math.MinInt, math.MaxInt} {
				if f.Add(v, w) || f.Set(v, w) || f.PathAdd(v, v, w) || f.PathAdd(v, 0, w) {
					t.Errorf("%d, %d: something is done", v, w)
				}
			}
			if f.Has(v) || f.Drop(v) || f.Same(v, v) || f.Link(v, 0) || f.Link(0, v) || f.Cut(v) || f.Evert(v) {
				t.Errorf("%d: it is there", v)
			}
			if f.Root(v) != -1 || f.Parent(v) != -1 || f.Lca(v, v) != -1 || f.Size(v) != 0 {
				t.Errorf("%d: root %d, parent %d, lca %d, size %d", v, f.Root(v), f.Parent(v), f.Lca(v, v), f.Size(v))
			}
			if w, ok := f.Get(v); w != 0 || ok {
				t.Errorf("Get(%d): got %d, %v", v, w, ok)
			}
			if s, ok := f.Path(v, v); s != (api.Sum{}) || ok {
				t.Errorf("Path(%d, %d): got %+v, %v", v, v, s, ok)
			}
			if c, w, ok := f.Sub(v); c != 0 || w != 0 || ok {
				t.Errorf("Sub(%d): got %d, %d, %v", v, c, w, ok)
			}
		}
		if f.Check() {
			t.Error("Check: got true")
		}
	})
}

// Rule 4: what is done to one forest, another one doesn't know.
func TestApart(t *testing.T) {
	each(t, func(t *testing.T, k kind) {
		x, y := grown(t, k), grown(t, k)
		x.evert(5, true)
		x.set(0, 99, true)
		x.cut(0, true)
		x.drop(9, true)
		x.same()
		y.same()
	})
}

// P10, P5.1, P8.1, P9.1, P10.1: a forest with all its nodes, each weight at its end: a line, then a star.
func TestFull(t *testing.T) {
	each(t, func(t *testing.T, k kind) {
		f := k.make(most)
		for v := range most {
			if !f.Add(v, end) {
				t.Fatalf("Add(%d): no room", v)
			}
		}
		if f.Add(most, 0) || f.Add(0, 0) {
			t.Fatal("room for one more")
		}
		for v := range most - 1 {
			if !f.Link(v, v+1) {
				t.Fatalf("Link(%d, %d): refused", v, v+1)
			}
		}
		whole := api.Sum{Count: most, Sum: most * end, Min: end, Max: end}
		wantWhole := func(a, b int) {
			t.Helper()
			if s, ok := f.Path(a, b); !ok || s != whole {
				t.Fatalf("Path(%d, %d): got %+v, %v", a, b, s, ok)
			}
			if c, w, ok := f.Sub(f.Root(a)); !ok || c != most || w != whole.Sum || f.Size(b) != most {
				t.Fatalf("Sub of the root: got %d, %d, %v", c, w, ok)
			}
		}
		wantWhole(0, most-1)
		if c, w, ok := f.Sub(most / 2); !ok || c != most/2+1 || w != (most/2+1)*end {
			t.Fatalf("Sub of the middle: got %d, %d, %v", c, w, ok)
		}
		if !f.Evert(0) || f.Root(most-1) != 0 || f.Link(0, most-1) || f.PathAdd(0, most-1, 1) {
			t.Fatal("the line turned round")
		}
		wantWhole(most-1, 0)
		if !f.PathAdd(0, most-1, -step) {
			t.Fatal("not raised from end to end")
		}
		whole.Sum, whole.Min, whole.Max = -whole.Sum, -end, -end
		wantWhole(0, most-1)
		for v := most - 1; v > 1; v-- {
			if !f.Cut(v) || !f.Link(v, 0) {
				t.Fatalf("%d can't be taken to the star", v)
			}
		}
		if c, w, _ := f.Sub(0); c != most || w != whole.Sum || f.Lca(1, most-1) != 0 || !f.Check() {
			t.Fatalf("the star: Sub(0) is %d, %d", c, w)
		}
		if s, ok := f.Path(1, most-1); !ok || s != (api.Sum{Count: 3, Sum: -3 * end, Min: -end, Max: -end}) {
			t.Fatalf("the star's way: got %+v, %v", s, ok)
		}
	})
}

// P5.1, P5.2, P8.1, P8.2, P9.1, P9.2, P10.1, P10.2: a line and a star of which every node is made the root.
func TestLineAndStar(t *testing.T) {
	each(t, func(t *testing.T, k kind) {
		const n = 40
		line, star := newBoth(t, k, n), newBoth(t, k, n)
		for v := range n {
			line.add(v, v*v-700, true)
			star.add(v, 300-v*v, true)
			if v > 0 {
				line.link(v, v-1, true)
				star.link(v, 0, true)
			}
		}
		for i := range n {
			v := i * 13 % n
			line.evert(v, true)
			star.evert(v, true)
			if i%8 == 0 {
				line.same()
				star.same()
			}
		}
		line.cut(line.f.Parent(0), line.f.Parent(line.f.Parent(0)) != -1)
		star.cut(0, star.f.Parent(0) != -1)
		line.same()
		star.same()
	})
}

// P5.1, P5.2, P8.1, P8.2, P9.1, P9.2, P10.1, P10.2: a long line, made the root at either end in turn, and between them.
func TestLongLine(t *testing.T) {
	each(t, func(t *testing.T, k kind) {
		const n = 3000
		f := k.make(n)
		for v := range n {
			if !f.Add(v, v) || v > 0 && !f.Link(v, v-1) {
				t.Fatalf("%d: not linked", v)
			}
		}
		// told is what the line tells while root, which is one of its ends or any other one, is its root.
		told := func(root, v int) {
			t.Helper()
			below, weighs, parent := n, n*(n-1)/2, -1
			if v > root {
				below, weighs, parent = n-v, (n-v)*(v+n-1)/2, v-1
			} else if v < root {
				below, weighs, parent = v+1, v*(v+1)/2, v+1
			}
			if c, w, ok := f.Sub(v); !ok || c != below || w != weighs || f.Root(v) != root || f.Parent(v) != parent || f.Size(v) != n {
				t.Fatalf("root %d: Sub(%d) is %d, %d, its parent %d", root, v, c, w, f.Parent(v))
			}
			if s, ok := f.Path(v, n-1); !ok || s != (api.Sum{Count: n - v, Sum: (n - v) * (v + n - 1) / 2, Min: v, Max: n - 1}) {
				t.Fatalf("root %d: Path(%d, %d) is %+v", root, v, n-1, s)
			}
			if top := f.Lca(v, n-1); top != min(max(root, v), n-1) {
				t.Fatalf("root %d: Lca(%d, %d) is %d", root, v, n-1, top)
			}
		}
		for i := range 60 {
			for _, root := range []int{0, n - 1, i * 977 % n} {
				if !f.Evert(root) {
					t.Fatalf("Evert(%d): refused", root)
				}
				for _, v := range []int{0, n - 1, root, i * 389 % n} {
					told(root, v)
				}
			}
		}
		if !f.Check() {
			t.Error("Check: got false")
		}
	})
}

// P5.2, P8.2, P9.2, P10.2: made the root, a node leaves its tree the same nodes, weights and ways.
func TestEvertLeaves(t *testing.T) {
	each(t, func(t *testing.T, k kind) {
		r := rand.New(rand.NewSource(52))
		for range 60 {
			const n = 12
			f := randomForest(k, r, n)
			before := waysOf(f, n)
			v := r.Intn(n)
			f.Evert(v)
			if f.Root(v) != v || f.Parent(v) != -1 {
				t.Fatalf("Evert(%d): root %d", v, f.Root(v))
			}
			if waysOf(f, n) != before {
				t.Fatalf("Evert(%d) changed a way", v)
			}
		}
	})
}

// P5.1, P8.1, P9.1, P10.1: what is done is undone: an evert by one of the root before, a link by a cut, a raise by a raise the other way.
func TestUndone(t *testing.T) {
	each(t, func(t *testing.T, k kind) {
		const n = 12
		r := rand.New(rand.NewSource(54))
		for range 60 {
			f := randomForest(k, r, n)
			ways, parents := waysOf(f, n), parentsOf(f, n)
			a, b := r.Intn(n), r.Intn(n)
			root := f.Root(a)
			if !f.Evert(a) || !f.Evert(root) {
				t.Fatalf("Evert(%d), Evert(%d): refused", a, root)
			}
			if f.PathAdd(a, b, 33) {
				f.PathAdd(b, a, -33)
			}
			if f.Link(root, b) {
				f.Cut(root)
			}
			if waysOf(f, n) != ways || !slices.Equal(parentsOf(f, n), parents) {
				t.Fatalf("%d and %d: not undone", a, b)
			}
		}
	})
}

// P5.2, P8.2, P9.2, P10.2: what is cut off takes just its subtree with it.
func TestCutTakes(t *testing.T) {
	each(t, func(t *testing.T, k kind) {
		r := rand.New(rand.NewSource(53))
		for range 200 {
			const n = 12
			f := randomForest(k, r, n)
			c := r.Intn(n)
			var below, beside [n]bool
			for v := range n {
				below[v] = f.Lca(v, c) == c
				beside[v] = f.Same(v, c) && !below[v]
			}
			root, size := f.Root(c), f.Size(c)
			count, _, _ := f.Sub(c)
			if f.Cut(c) != (root != c) {
				t.Fatalf("Cut(%d), of root %d", c, root)
			}
			for v := range n {
				if f.Same(v, c) != below[v] || f.Same(v, root) != (beside[v] || root == c && below[v]) {
					t.Fatalf("Cut(%d): %d went to the wrong tree", c, v)
				}
			}
			if f.Size(c) != count || root != c && f.Size(root) != size-count {
				t.Fatalf("Cut(%d): sizes %d and %d, from %d and %d", c, f.Size(c), f.Size(root), count, size)
			}
		}
	})
}

// randomForest has all its n nodes, in one tree or several.
func randomForest(k kind, r *rand.Rand, n int) forest {
	f := k.make(n)
	for v := range n {
		f.Add(v, r.Intn(2001)-1000)
	}
	for v := 1; v < n; v++ {
		if r.Intn(5) > 0 {
			f.Link(v, r.Intn(v))
		}
	}
	return f
}

func parentsOf(f forest, n int) []int {
	l := make([]int, n)
	for v := range n {
		l[v] = f.Parent(v)
	}
	return l
}

type ways struct {
	has, same [12][12]bool
	sums      [12][12]api.Sum
	weights   [12]int
	sizes     [12]int
}

// waysOf is all that P5.2 says stays as it is.
func waysOf(f forest, n int) ways {
	var w ways
	for a := range n {
		w.weights[a], _ = f.Get(a)
		w.sizes[a] = f.Size(a)
		for b := range n {
			w.sums[a][b], w.has[a][b] = f.Path(a, b)
			w.same[a][b] = f.Same(a, b)
		}
	}
	return w
}

// change does one thing at random to both, and holds the answers against each other.
func change(t *testing.T, r *rand.Rand, x *both) {
	t.Helper()
	n := len(x.m.there)
	a, b := r.Intn(n+2)-1, r.Intn(n+2)-1
	weights := []int{r.Intn(100) - 50, end, -end, end - 1, end + 1, -end - 1, 0, 1, -1, step, -step, step + 1, math.MinInt, math.MaxInt}
	w := weights[r.Intn(len(weights))]
	if r.Intn(3) > 0 {
		w = weights[0]
	}
	var got, want bool
	kind := r.Intn(9)
	switch kind {
	case 0, 1:
		got, want = x.f.Add(a, w), x.m.add(a, w)
	case 2:
		got, want = x.f.Drop(a), x.m.drop(a)
	case 3, 4:
		got, want = x.f.Link(a, b), x.m.link(a, b)
	case 5:
		got, want = x.f.Evert(a), x.m.evert(a)
	case 6:
		got, want = x.f.Set(a, w), x.m.set(a, w)
	case 7:
		got, want = x.f.Cut(a), x.m.cut(a)
	case 8:
		got, want = x.f.PathAdd(a, b, w), x.m.pathAdd(a, b, w)
	}
	if got != want {
		t.Fatalf("kind %d of %d, %d, %d: got %v, want %v", kind, a, b, w, got, want)
	}
}

// P5.1, P5.2, P8.1, P8.2, P9.1, P9.2, P10.1, P10.2: short runs in small forests, all that is told looked at behind each step.
func TestRuns(t *testing.T) {
	each(t, func(t *testing.T, k kind) {
		r := rand.New(rand.NewSource(5))
		for i := range 300 {
			x := newBoth(t, k, 1+i%8)
			for range 60 {
				change(t, r, x)
				x.same()
			}
		}
	})
}

// P5.1, P5.2, P8.1, P8.2, P9.1, P9.2, P10.1, P10.2: a long run in a greater one, looked at now and then.
func TestLongRun(t *testing.T) {
	each(t, func(t *testing.T, k kind) {
		r := rand.New(rand.NewSource(51))
		x := newBoth(t, k, 30)
		for i := range 6000 {
			change(t, r, x)
			if i%100 == 0 {
				x.same()
			}
		}
		x.same()
	})
}

// answer is what one call answers, whichever it was.
type answer struct {
	ok   bool
	n, m int
	sum  api.Sum
}

// ask hands one call to f: a question, if kind is below 9, else a change.
func ask(f forest, kind, a, b, w int) answer {
	var x answer
	switch kind {
	case 0:
		x.n, x.ok = f.Get(a)
	case 1:
		x.sum, x.ok = f.Path(a, b)
	case 2:
		x.n, x.m, x.ok = f.Sub(a)
	case 3:
		x.n = f.Size(a)
	case 4:
		x.n = f.Root(a)
	case 5:
		x.n = f.Parent(a)
	case 6:
		x.n = f.Lca(a, b)
	case 7:
		x.ok = f.Same(a, b)
	case 8:
		x.ok = f.Has(a)
	case 9, 10:
		x.ok = f.Add(a, w)
	case 11, 12, 13:
		x.ok = f.Link(a, b)
	case 14:
		x.ok = f.Cut(a)
	case 15:
		x.ok = f.Evert(a)
	case 16, 17:
		x.ok = f.PathAdd(a, b, w)
	case 18:
		x.ok = f.Set(a, w)
	case 19:
		x.ok = f.Drop(a)
	}
	return x
}

// askBoth does the same to f and a plain forest, step by step, and holds the answers against each other.
func askBoth(t *testing.T, r *rand.Rand, f, plain forest, n, steps int) {
	t.Helper()
	for range steps {
		kind, a, b, w := r.Intn(20), r.Intn(n), r.Intn(n), r.Intn(200)-100
		if r.Intn(40) == 0 {
			w = []int{end, -end, end - 1, 1 - end, step, -step}[r.Intn(6)]
		}
		// Few nodes are roots: without this, what is cut off would seldom be linked again.
		if root := plain.Root(a); kind >= 11 && kind <= 13 && root != -1 {
			a = root
		}
		if got, want := ask(f, kind, a, b, w), ask(plain, kind, a, b, w); got != want {
			t.Fatalf("room %d, kind %d of %d, %d, %d: got %+v, want %+v", n, kind, a, b, w, got, want)
		}
	}
	if !f.Check() {
		t.Fatalf("room %d: Check: got false", n)
	}
}

// P5.1, P5.2, P8.1, P8.2, P9.1, P9.2, P10.1, P10.2: each kind beside the plain one, asked and changed by turns, so that whatever a question leaves behind meets every other call.
func TestBesidePlain(t *testing.T) {
	each(t, func(t *testing.T, k kind) {
		r := rand.New(rand.NewSource(58))
		for _, n := range []int{2, 3, 4, 5, 6, 8, 12, 20, 50, 200, 700} {
			for range max(1, 60/n) {
				askBoth(t, r, k.make(n), kinds()[0].make(n), n, 6000)
			}
		}
	})
}

// P5.1, P5.2, P8.1, P8.2, P9.1, P9.2, P10.1, P10.2: as above, from a long line on.
func TestBesidePlainLine(t *testing.T) {
	each(t, func(t *testing.T, k kind) {
		r := rand.New(rand.NewSource(59))
		for range 20 {
			const n = 300
			f, plain := k.make(n), kinds()[0].make(n)
			for v := range n {
				f.Add(v, v)
				plain.Add(v, v)
				f.Link(v, v-1)
				plain.Link(v, v-1)
			}
			askBoth(t, r, f, plain, n, 1000)
		}
	})
}
