package link

import (
	"math"
	"math/rand"
	"slices"
	"testing"

	"arboretum/api"
)

// What every forest is promised to do is tested in package forests: here is what a link-cut tree's slots must be.

const (
	most = 1 << 20 // written out, not taken from api: how many nodes and which weights there may be is part of the promise
	end  = 1 << 40
)

// line is a forest of one tree: each node but 0 below the one before it.
func line(n int) *Forest {
	f := New(n)
	for v := range n {
		f.Add(v, 10*v-33)
		f.Link(v, v-1)
	}
	return f
}

// grown is a forest of three trees and a gap: 1 and 2 below 0, 3 and 4 below 1, 5 below 3; 7 below 6; 8 isn't there, 9 is a root alone.
func grown() *Forest {
	f := New(10)
	for v := range 10 {
		f.Add(v, 10*v-3)
	}
	for _, l := range [][2]int{{1, 0}, {2, 0}, {3, 1}, {4, 1}, {5, 3}, {7, 6}} {
		f.Link(l[0], l[1])
	}
	f.Drop(8)
	return f
}

// path is the nodes of t's part, as they stand from left to right, with all that waits taken into account.
func (f *Forest) path(t int, turned bool) []int {
	if t == none {
		return nil
	}
	s := f.slots[t]
	left, right := s.left, s.right
	if turned {
		left, right = right, left
	}
	return slices.Concat(f.path(left, turned != s.turn), []int{t - 1}, f.path(right, turned != s.turn))
}

// A node that was asked for its subtree is the last one of a path from its root down to it, and at the top of it.
func TestPathOfExposed(t *testing.T) {
	f := grown()
	for _, c := range []struct {
		v    int
		path []int
	}{
		{5, []int{0, 1, 3, 5}}, {2, []int{0, 2}}, {4, []int{0, 1, 4}}, {0, []int{0}}, {3, []int{0, 1, 3}}, {9, []int{9}}, {7, []int{6, 7}}, {6, []int{6}},
	} {
		f.Sub(c.v)
		if got := f.path(c.v+1, false); !slices.Equal(got, c.path) || f.slots[c.v+1].up != none {
			t.Errorf("the path of %d: got %v, want %v", c.v, got, c.path)
		}
		if !f.Check() {
			t.Fatalf("behind Sub(%d): Check: got false", c.v)
		}
	}
	f.Evert(4)
	f.Sub(5)
	if got := f.path(6, false); !slices.Equal(got, []int{4, 1, 3, 5}) {
		t.Errorf("the path of 5 below 4: got %v", got)
	}
}

// What hangs at a node by other paths, and nothing else, is counted there.
func TestHangs(t *testing.T) {
	f := grown()
	f.Sub(5)
	for v, want := range []mass{{1, 17}, {1, 37}, {}, {}, {}, {}} {
		if got := f.slots[v+1].hangs; got != want {
			t.Errorf("with the path to 5: at %d hangs %+v, want %+v", v, got, want)
		}
	}
	f.PathAdd(2, 4, 100)
	f.Sub(2)
	for v, want := range map[int]mass{0: {4, 7 + 27 + 37 + 47 + 200}, 2: {}} {
		if got := f.slots[v+1].hangs; got != want {
			t.Errorf("with the path to 2: at %d hangs %+v, want %+v", v, got, want)
		}
	}
}

// changed is how many slots of f differ from kept.
func (f *Forest) changed(kept []slot) int {
	count := 0
	for t, s := range f.slots {
		if s != kept[t] {
			count++
		}
	}
	return count
}

// However long a path is, it is turned round and raised at its top, and the rest waits.
func TestWaits(t *testing.T) {
	const n = 1000
	f := line(n)
	f.Sub(n - 1)
	top := n
	kept := slices.Clone(f.slots)
	f.turn(top)
	if f.changed(kept) != 1 || !f.slots[top].turn {
		t.Errorf("turned round: %d slots changed", f.changed(kept))
	}
	kept = slices.Clone(f.slots)
	f.raise(top, 5)
	if f.changed(kept) != 1 || f.slots[top].wait != 5 {
		t.Errorf("raised: %d slots changed", f.changed(kept))
	}
	if !f.Check() || f.Root(0) != n-1 || f.Parent(0) != 1 {
		t.Errorf("turned round: root %d, parent %d", f.Root(0), f.Parent(0))
	}
	if w, _ := f.Get(500); w != 10*500-33+5 {
		t.Errorf("raised: got %d", w)
	}
	if !f.Check() {
		t.Error("Check: got false")
	}
}

// The way up of a node in the splay trees stays short, over many calls: in a long line thousands of them are done at once.
func TestLongLine(t *testing.T) {
	r := rand.New(rand.NewSource(8))
	f := line(most)
	root := 0
	for range 20000 {
		a, b := r.Intn(most), r.Intn(most)
		low, high := min(a, b), max(a, b)
		count := high - low + 1
		want := api.Sum{Count: count, Sum: count * (10*(low+high) - 66) / 2, Min: 10*low - 33, Max: 10*high - 33}
		if s, ok := f.Path(a, b); !ok || s != want {
			t.Fatalf("Path(%d, %d): got %+v, want %+v", a, b, s, want)
		}
		if got, want := f.Lca(a, b), min(max(low, root), high); got != want {
			t.Fatalf("Lca(%d, %d) with root %d: got %d, want %d", a, b, root, got, want)
		}
		if !f.PathAdd(a, b, 7) || !f.Evert(b) || f.Root(a) != b || !f.PathAdd(b, a, -7) {
			t.Fatalf("%d and %d: not raised and turned round", a, b)
		}
		root = b
	}
	if !f.Check() {
		t.Error("Check: got false")
	}
}

// depth is how many slots are above t in its splay tree.
func (f *Forest) depth(t int) int {
	steps := 0
	for ; !f.isTop(t); t = f.slots[t].up {
		steps++
	}
	return steps
}

// The trees of paths are splay trees: who goes along a path again and again finds each slot a few steps further up than a list would have it.
func TestSplay(t *testing.T) {
	const n = 1 << 12
	f := line(n)
	f.Sub(n - 1)
	steps := 0
	for i := range 4 * n {
		v := i % n
		if i/n%2 == 1 {
			v = n - 1 - v
		}
		steps += f.depth(v + 1)
		f.Get(v)
		if f.depth(v+1) != 0 {
			t.Fatalf("%d was asked, and isn't at the top", v)
		}
	}
	if steps > 8*4*n {
		t.Errorf("%d nodes of a path, each asked 4 times: %d steps", n, steps)
	}
}

// What is found at the end of a walk is made the top, too.
func TestSplayOfEnds(t *testing.T) {
	const n = 500
	f := line(n)
	for _, v := range []int{n - 1, 1, n / 2, n - 2, 3} {
		if f.Root(v); f.depth(1) != 0 {
			t.Errorf("the root of %d isn't at the top", v)
		}
		if f.Parent(v); f.depth(v) != 0 {
			t.Errorf("the parent of %d isn't at the top", v)
		}
	}
}

// broken is a forest of these slots, with the sums that their weights ask for, and what hangs at them taken as it stands.
// What is part of another one stands behind it.
func broken(slots ...slot) *Forest {
	f := &Forest{room: len(slots), slots: append([]slot{{}}, slots...)}
	for t := len(slots); t > 0; t-- {
		s := &f.slots[t]
		s.sum = api.Sum{Count: 1, Sum: s.weight, Min: s.weight, Max: s.weight}
		s.hung = s.hangs
		for _, kid := range []int{s.left, s.right} {
			if part := f.slots[kid]; kid != none {
				s.sum.Count += part.sum.Count
				s.sum.Sum += part.sum.Sum + part.sum.Count*s.wait
				s.sum.Min = min(s.sum.Min, part.sum.Min+s.wait)
				s.sum.Max = max(s.sum.Max, part.sum.Max+s.wait)
				s.hung = s.hung.with(part.hung)
			}
		}
	}
	return f
}

// P8.1: Check is false of what the chapter doesn't have, and ends there too.
func TestCheckOfBroken(t *testing.T) {
	// The path 4, 1, 3, 5 waits at its top, 5; 0 hangs at 1, and 2 at 0.
	const top, hanging, alone, gone = 6, 1, 10, 9
	spoiled := func() *Forest {
		f := grown()
		f.Evert(4)
		f.Sub(0)
		f.Sub(5)
		f.turn(top)
		f.turn(top)
		f.raise(top, 8)
		return f
	}
	leaf := slices.IndexFunc(spoiled().slots, func(s slot) bool { return s.sum.Count == 1 && s.up != none })
	for what, spoil := range map[string]func(f *Forest){
		"an up that leads nowhere":            func(f *Forest) { f.slots[alone].up = len(f.slots) },
		"an up below the slots":               func(f *Forest) { f.slots[alone].up = -1 },
		"an up at an end of int":              func(f *Forest) { f.slots[alone].up = math.MinInt },
		"an up at the other end":              func(f *Forest) { f.slots[alone].up = math.MaxInt },
		"an up that isn't there":              func(f *Forest) { f.slots[alone].up = gone },
		"a left that leads nowhere":           func(f *Forest) { f.slots[leaf].left = math.MaxInt },
		"a right that leads nowhere":          func(f *Forest) { f.slots[leaf].right = -7 },
		"a left that isn't there":             func(f *Forest) { f.slots[alone].left = gone },
		"a right that isn't there":            func(f *Forest) { f.slots[alone].right = gone },
		"a slot left of itself":               func(f *Forest) { f.slots[leaf].left = leaf },
		"a slot of its own part":              func(f *Forest) { f.slots[alone].up, f.slots[alone].right = alone, alone },
		"a path that hangs at itself":         func(f *Forest) { f.slots[alone].up = alone },
		"a path that hangs below itself":      func(f *Forest) { f.slots[top].up = hanging },
		"a path that isn't counted":           func(f *Forest) { f.slots[alone].up = top },
		"a path that is counted elsewhere":    func(f *Forest) { f.slots[hanging].up = leaf },
		"a path that hangs nowhere":           func(f *Forest) { f.slots[hanging].up = none },
		"a part that doesn't know of its top": func(f *Forest) { f.slots[f.slots[top].left].up = none },
		"one part on both sides":              func(f *Forest) { f.slots[top].right = f.slots[top].left },
		"a part left out":                     func(f *Forest) { f.slots[top].left = none },
		"another weight":                      func(f *Forest) { f.slots[leaf].weight++ },
		"another weight at the top":           func(f *Forest) { f.slots[top].weight-- },
		"another count":                       func(f *Forest) { f.slots[top].sum.Count++ },
		"a count of one that is there":        func(f *Forest) { f.slots[alone].sum.Count = 0 },
		"a count below 0":                     func(f *Forest) { f.slots[alone].sum.Count = -1 },
		"another sum":                         func(f *Forest) { f.slots[top].sum.Sum++ },
		"another least one":                   func(f *Forest) { f.slots[top].sum.Min-- },
		"another greatest one":                func(f *Forest) { f.slots[top].sum.Max++ },
		"more that waits":                     func(f *Forest) { f.slots[top].wait++ },
		"what waits for nobody":               func(f *Forest) { f.slots[leaf].wait = 1 },
		"nobody to be turned round":           func(f *Forest) { f.slots[leaf].turn = true },
		"more nodes that hang":                func(f *Forest) { f.slots[alone].hangs.count++; f.slots[alone].hung.count++ },
		"more weight that hangs":              func(f *Forest) { f.slots[alone].hangs.weight++; f.slots[alone].hung.weight++ },
		"what hangs, counted at the top only": func(f *Forest) { f.slots[top].hung.weight-- },
		"what hangs, counted not at the top":  func(f *Forest) { f.slots[leaf].hung.count++ },
		"a weight of one that is gone":        func(f *Forest) { f.slots[gone].weight = 1 },
		"an up of one that is gone":           func(f *Forest) { f.slots[gone].up = top },
		"what hangs at one that is gone":      func(f *Forest) { f.slots[gone].hangs.count = 1 },
		"a slot none that is there":           func(f *Forest) { f.slots[none].sum.Count = 1 },
		"a slot none of a part":               func(f *Forest) { f.slots[none].up = top },
		"a slot none that is there alone":     func(f *Forest) { *f = Forest{slots: []slot{{sum: api.Sum{Count: 1}}}} },
		"no slot none":                        func(f *Forest) { f.slots = nil },
		"more nodes than room":                func(f *Forest) { f.room = 9 },
		"room below none":                     func(f *Forest) { f.room = -1 },
		"room past the limit":                 func(f *Forest) { f.room = most + 1 },
		"a weight past its end":               func(f *Forest) { *f = *broken(slot{weight: end + 1}) },
		"a weight past its other end":         func(f *Forest) { *f = *broken(slot{weight: -end - 1}) },
		"a weight past its end, that waits":   func(f *Forest) { *f = *broken(slot{right: 2, wait: end}, slot{up: 1, weight: 1}) },
		"a weight past its other end, that waits": func(f *Forest) {
			*f = *broken(slot{left: 2, wait: -end}, slot{up: 1, weight: -1})
		},
		"one part on both sides, counted twice": func(f *Forest) { *f = *broken(slot{left: 2, right: 2}, slot{up: 1}) },
		"a part right of two": func(f *Forest) {
			*f = *broken(slot{right: 3, hangs: mass{2, 0}}, slot{up: 1, right: 3}, slot{up: 1})
		},
		"a part left of two": func(f *Forest) {
			*f = *broken(slot{left: 3, hangs: mass{2, 0}}, slot{up: 1, left: 3}, slot{up: 1})
		},
	} {
		f := spoiled()
		if !f.Check() || f.slots[top].wait == 0 || f.slots[hanging].up != 2 {
			t.Fatalf("Check: got %v of what is whole", f.Check())
		}
		if spoil(f); f.Check() {
			t.Errorf("Check of %s: got true", what)
		}
	}
	if !broken(slot{right: 2, wait: end, hangs: mass{1, 5}}, slot{up: 1}, slot{up: 1, weight: 5}).Check() {
		t.Error("Check: got false of what is whole, made by hand")
	}
}
