package tour

import (
	"fmt"
	"math"
	"slices"
	"strings"
	"testing"

	"arboretum/api"
	"arboretum/avl"
	"arboretum/btree"
)

// What every forest is promised to do is tested in package forests: here is what kinds there are, and what a tour must be.

const most = 1 << 20 // written out, not taken from api: how many nodes there may be is part of the promise

// each runs a test with both kinds of sequences.
func each(t *testing.T, test func(t *testing.T, kind int)) {
	for name, kind := range map[string]int{"avl": api.Avl, "btree": api.Btree} {
		t.Run(name, func(t *testing.T) { test(t, kind) })
	}
}

// line is a forest of one tree: each node but 0 below the one before it.
func line(kind, n int) *Forest {
	f := New(kind, n)
	for v := range n {
		f.Add(v, 10*v-33)
		f.Link(v, v-1)
	}
	return f
}

// grown is a forest of three trees and a gap: 1 and 2 below 0, 3 and 4 below 1, 5 below 3; 7 below 6; 8 isn't there, 9 is a root alone.
func grown(kind int) *Forest {
	f := New(kind, 10)
	for v := range 10 {
		f.Add(v, 10*v-3)
	}
	for _, l := range [][2]int{{1, 0}, {2, 0}, {3, 1}, {4, 1}, {5, 3}, {7, 6}} {
		f.Link(l[0], l[1])
	}
	f.Drop(8)
	return f
}

// told is the tour of v: (1 is the arc down to 1, )1 the one up from it.
func (f *Forest) told(v int) string {
	names := map[int]string{}
	for u, n := range f.nodes {
		names[item(u)] = fmt.Sprint(u)
		names[n.down] = fmt.Sprintf("(%d", u)
		names[n.up] = fmt.Sprintf(")%d", u)
	}
	var l []string
	for k := range f.tours.All(item(v)).Count {
		l = append(l, names[f.tours.At(item(v), k)])
	}
	return strings.Join(l, " ")
}

func (f *Forest) wantTour(t *testing.T, v int, want string) {
	t.Helper()
	if got := f.told(v); got != want {
		t.Errorf("the tour of %d: got %s, want %s", v, got, want)
	}
	if !f.Check() {
		t.Error("Check: got false")
	}
}

// P9.1: New takes the two kinds of sequences, and no other one.
func TestNewKinds(t *testing.T) {
	for _, n := range []int{0, 1, 7, most} {
		for _, kind := range []int{api.Avl, api.Btree, 2, 3} {
			if f := New(kind, n); f == nil || !f.Check() {
				t.Errorf("New(%d, %d): got nil, or Check false", kind, n)
			}
		}
		for _, kind := range []int{
			api.Plain, api.Link, api.Heavy, api.Kinds, 0, 1, 4, 5, 6, -1, -2, -3, 2 + 1<<8, 3 + 1<<32, 2 - 1<<32, math.MaxInt32, math.MinInt32,
			math.MaxInt, math.MinInt,
		} {
			if New(kind, n) != nil {
				t.Errorf("New(%d, %d): got a forest", kind, n)
			}
		}
	}
	for _, n := range []int{-1, most + 1, math.MaxInt, math.MinInt, 1 << 32, -1 << 32, math.MaxInt/3 + 1, math.MaxInt/3*2 + 2} {
		for _, kind := range []int{-1, 1, 2, 3, 4, math.MinInt} {
			if New(kind, n) != nil {
				t.Errorf("New(%d, %d): got a forest", kind, n)
			}
		}
	}
}

// Each kind stands in the sequences of its own layer.
func TestSequencesOfKinds(t *testing.T) {
	if _, ok := New(api.Avl, 3).tours.(*avl.Pool); !ok {
		t.Error("Avl: not in AVL trees")
	}
	if _, ok := New(api.Btree, 3).tours.(*btree.Pool); !ok {
		t.Error("Btree: not in B-trees")
	}
}

// A tour has each node, and an arc down and one up about what is below each node but the root.
func TestTour(t *testing.T) {
	each(t, func(t *testing.T, kind int) {
		f := grown(kind)
		f.wantTour(t, 3, "0 (1 1 (3 3 (5 5 )5 )3 (4 4 )4 )1 (2 2 )2")
		f.wantTour(t, 7, "6 (7 7 )7")
		f.wantTour(t, 9, "9")
		f.Link(9, 4)
		f.Link(6, 3)
		f.wantTour(t, 9, "0 (1 1 (3 3 (5 5 )5 (6 6 (7 7 )7 )6 )3 (4 4 (9 9 )9 )4 )1 (2 2 )2")
	})
}

// Turned to another root, a tour has the same items, one behind another, but begins elsewhere: where it went down it may go up.
func TestTurned(t *testing.T) {
	each(t, func(t *testing.T, kind int) {
		f := grown(kind)
		f.Evert(5)
		f.wantTour(t, 0, "5 (3 (1 (4 4 )4 (0 (2 2 )2 0 )0 1 )1 3 )3")
		f.Evert(5)
		f.wantTour(t, 0, "5 (3 (1 (4 4 )4 (0 (2 2 )2 0 )0 1 )1 3 )3")
		f.Evert(4)
		f.wantTour(t, 0, "4 (1 (0 (2 2 )2 0 )0 1 (3 3 (5 5 )5 )3 )1")
		f.Evert(0)
		f.wantTour(t, 0, "0 (1 1 (3 3 (5 5 )5 )3 (4 4 )4 )1 (2 2 )2")
	})
}

// What is cut off has its own tour, from its root on; the rest closes.
func TestCutTours(t *testing.T) {
	each(t, func(t *testing.T, kind int) {
		f := grown(kind)
		f.Evert(5)
		f.Cut(1)
		f.wantTour(t, 5, "5 (3 3 )3")
		f.wantTour(t, 1, "1 (4 4 )4 (0 (2 2 )2 0 )0")
		f.Cut(0)
		f.wantTour(t, 1, "1 (4 4 )4")
		f.wantTour(t, 0, "0 (2 2 )2")
		f.Cut(2)
		f.wantTour(t, 2, "2")
		f.Link(5, 2)
		f.wantTour(t, 5, "2 (5 5 (3 3 )3 )5")
	})
}

// However often nodes are linked, cut and turned, no arc is left over, and none is missing.
func TestArcsComeBack(t *testing.T) {
	each(t, func(t *testing.T, kind int) {
		const n = 7
		f := line(kind, n)
		for i := range 5 * n {
			f.Evert(i * 3 % n)
			c, p := i*5%n, i*4%n
			f.Cut(c)
			f.Link(c, p)
			f.Evert(c)
			f.Link(c, i*2%n)
			if !f.Check() {
				t.Fatalf("step %d: Check: got false", i)
			}
		}
		for v := range n {
			f.Cut(v)
		}
		for x := range perNode * n {
			if f.tours.Has(x) != (x%perNode == 0) {
				t.Errorf("all cut: item %d is there: %v", x, f.tours.Has(x))
			}
		}
		for v := range n {
			if !f.Drop(v) {
				t.Errorf("Drop(%d): refused", v)
			}
		}
		if !f.Check() {
			t.Error("Check: got false of what is empty again")
		}
	})
}

// What is asked changes nothing that is kept.
func TestAskingLeaves(t *testing.T) {
	each(t, func(t *testing.T, kind int) {
		f := grown(kind)
		f.Evert(3)
		f.PathAdd(5, 2, 50)
		kept := slices.Clone(f.nodes)
		tours := [3]string{f.told(0), f.told(6), f.told(9)}
		for a := -1; a <= 10; a++ {
			f.Has(a)
			f.Root(a)
			f.Parent(a)
			f.Get(a)
			f.Sub(a)
			f.Size(a)
			for b := -1; b <= 10; b++ {
				f.Same(a, b)
				f.Lca(a, b)
				f.Path(a, b)
			}
		}
		if !f.Check() || !slices.Equal(kept, f.nodes) || tours != [3]string{f.told(0), f.told(6), f.told(9)} {
			t.Error("asking changed something")
		}
	})
}

// counted counts how often sequences are cut, joined and asked.
type counted struct {
	sequences
	cuts, joins, others *int
}

func (c counted) Before(v int) bool     { *c.cuts++; return c.sequences.Before(v) }
func (c counted) Join(a, b int) bool    { *c.joins++; return c.sequences.Join(a, b) }
func (c counted) At(v, k int) int       { *c.others++; return c.sequences.At(v, k) }
func (c counted) Rank(v int) int        { *c.others++; return c.sequences.Rank(v) }
func (c counted) Same(a, b int) bool    { *c.others++; return c.sequences.Same(a, b) }
func (c counted) All(v int) api.Sum     { *c.others++; return c.sequences.All(v) }
func (c counted) Set(v, w int) bool     { *c.others++; return c.sequences.Set(v, w) }
func (c counted) Add(v, w int) bool     { *c.others++; return c.sequences.Add(v, w) }
func (c counted) Drop(v int) bool       { *c.others++; return c.sequences.Drop(v) }
func (c counted) Lift(a, b, w int) bool { *c.others++; return c.sequences.Lift(a, b, w) }

// However long a line is, a link, a cut, a turn to another root and a lowest node above two are a few calls of sequences.
func TestFewCalls(t *testing.T) {
	each(t, func(t *testing.T, kind int) {
		const n = 1 << 12
		f := line(kind, n)
		c := counted{f.tours, new(int), new(int), new(int)}
		f.tours = c
		for _, call := range []struct {
			what                string
			do                  func() bool
			cuts, joins, others int
		}{
			{"Evert", func() bool { return f.Evert(n - 1) }, 1, 1, 2},
			{"Cut", func() bool { return f.Cut(n / 2) }, 5, 2, 9},
			{"Link", func() bool { return f.Link(n/2, n-2) }, 1, 4, 3},
			{"Sub", func() bool { _, _, ok := f.Sub(n - 1); return ok }, 0, 0, 1},
			{"Size", func() bool { return f.Size(3) == n }, 0, 0, 1},
			{"Root", func() bool { return f.Root(3) == n-1 }, 0, 0, 1},
			{"Lca", func() bool { return f.Lca(0, n-1) == n-1 && f.Lca(n-1, 0) == n-1 }, 0, 0, 100},
		} {
			*c.cuts, *c.joins, *c.others = 0, 0, 0
			if !call.do() {
				t.Errorf("%s: refused", call.what)
			}
			if *c.cuts > call.cuts || *c.joins > call.joins || *c.others > call.others {
				t.Errorf("%s: %d cuts, %d joins, %d other calls", call.what, *c.cuts, *c.joins, *c.others)
			}
		}
	})
}

// Nodes that are near each other find the lowest one above both without going far, however deep they are.
func TestShortClimb(t *testing.T) {
	const n = 1 << 12
	f := line(api.Avl, n)
	for _, c := range []struct{ a, b, steps int }{
		{n - 1, n - 1, 0}, {n - 1, n - 2, 1}, {n - 2, n - 1, 0}, {n - 1, n - 4, 3}, {n - 1, n - 5, 4}, {n - 1, n - 6, 5}, {n - 1, n - 17, 16}, {n - 1, 0, n - 1},
		{1, 0, 1}, {0, 0, 0}, {0, n - 1, 0},
	} {
		way := f.climb(c.a, c.b)
		if len(way) != c.steps+1 || way[0] != c.a || way[c.steps] != c.a-c.steps {
			t.Errorf("from %d to %d: %d steps, want %d", c.a, c.b, len(way)-1, c.steps)
		}
		if cap(way) > 8*(c.steps+1) {
			t.Errorf("from %d to %d: room for %d, want %d", c.a, c.b, cap(way), c.steps)
		}
	}
}

// unwell are sequences that aren't as they must be.
type unwell struct{ sequences }

func (unwell) Check() bool { return false }

// take takes item x, which isn't the first one, out of its sequence, and closes that.
func (f *Forest) take(x int) {
	first := f.tours.At(x, 0)
	f.tours.Before(x)
	f.tours.Join(first, f.cutBehind(x))
}

// move takes item x out of its sequence, and puts it ahead of y, which isn't the first one either.
func (f *Forest) move(x, y int) {
	f.take(x)
	first := f.tours.At(y, 0)
	f.tours.Before(y)
	f.tours.Join(first, x)
	f.tours.Join(x, y)
}

// swap gives each of two nodes the arcs of the other one.
func (f *Forest) swap(a, b int) {
	x, y := &f.nodes[a], &f.nodes[b]
	x.down, x.up, y.down, y.up = y.down, y.up, x.down, x.up
}

// comes puts item x, which isn't there, behind the tour of v.
func (f *Forest) comes(x, v int) {
	f.tours.Add(x, 0)
	f.tours.Join(item(v), x)
}

// P9.1: Check is false of what the chapter doesn't have, and ends there too.
func TestCheckOfBroken(t *testing.T) {
	// 5 is the root, 3 below it, 1 below 3, 0 and 4 below 1, 2 below 0; 7 below 6, 9 alone; 8 isn't there.
	whole := func(kind int) *Forest {
		f := grown(kind)
		f.Evert(5)
		f.PathAdd(2, 4, 8)
		return f
	}
	for what, spoil := range map[string]func(f *Forest){
		"no sequences":                   func(f *Forest) { f.tours = nil },
		"sequences that aren't well":     func(f *Forest) { f.tours = unwell{f.tours} },
		"room below none":                func(f *Forest) { f.room = -1 },
		"more nodes than room":           func(f *Forest) { f.room = 9 },
		"room past the limit":            func(f *Forest) { f.room = most + 1 },
		"a list that is too short":       func(f *Forest) { f.nodes = f.nodes[:7] },
		"another parent":                 func(f *Forest) { f.nodes[4].parent = 3 },
		"a parent in another tree":       func(f *Forest) { f.nodes[4].parent = 6 },
		"a parent that isn't there":      func(f *Forest) { f.nodes[4].parent = 8 },
		"a node as its own parent":       func(f *Forest) { f.nodes[4].parent = 4 },
		"a parent that is no node":       func(f *Forest) { f.nodes[4].parent = 10 },
		"a parent below none":            func(f *Forest) { f.nodes[4].parent = -2 },
		"a parent at an end of int":      func(f *Forest) { f.nodes[4].parent = math.MaxInt },
		"a parent at the other end":      func(f *Forest) { f.nodes[4].parent = math.MinInt },
		"a parent missing":               func(f *Forest) { f.nodes[4].parent = none },
		"a root with a parent":           func(f *Forest) { f.nodes[5].parent = 3 },
		"a root alone with a parent":     func(f *Forest) { f.nodes[9].parent = 5 },
		"a root alone as its own parent": func(f *Forest) { f.nodes[9].parent = 9 },
		"a parent of one that is gone":   func(f *Forest) { f.nodes[8].parent = 9 },
		"a parent of one that is by itself": func(f *Forest) {
			f.Cut(7)
			f.nodes[7].parent = 6
		},
		"arcs the wrong way round":        func(f *Forest) { f.nodes[4].down, f.nodes[4].up = f.nodes[4].up, f.nodes[4].down },
		"arcs of another node":            func(f *Forest) { f.swap(4, 2) },
		"arcs of a root":                  func(f *Forest) { f.swap(4, 5) },
		"arcs of one that is gone":        func(f *Forest) { f.swap(7, 8) },
		"one pair of two nodes":           func(f *Forest) { f.nodes[9].down, f.nodes[9].up = f.nodes[8].down, f.nodes[8].up },
		"arcs that are no pair":           func(f *Forest) { f.nodes[9].up, f.nodes[8].up = f.nodes[8].up, f.nodes[9].up },
		"one arc twice":                   func(f *Forest) { f.nodes[9].up = f.nodes[9].down },
		"the other arc twice":             func(f *Forest) { f.nodes[9].down = f.nodes[9].up },
		"an arc that is a node":           func(f *Forest) { f.nodes[9].down = item(9) },
		"an arc behind its pair":          func(f *Forest) { f.nodes[9].up++ },
		"an arc ahead of its pair":        func(f *Forest) { f.nodes[9].down, f.nodes[9].up = item(9), item(9)+1 },
		"arcs with which no node comes":   func(f *Forest) { f.nodes[9].down, f.nodes[9].up = arcs(10) },
		"arcs below all":                  func(f *Forest) { f.nodes[9].down, f.nodes[9].up = arcs(-1) },
		"arcs further below":              func(f *Forest) { f.nodes[9].down, f.nodes[9].up = arcs(-7) },
		"an arc at an end of int":         func(f *Forest) { f.nodes[9].down = math.MinInt },
		"an arc at the other end":         func(f *Forest) { f.nodes[9].up = math.MaxInt },
		"arcs at both ends of int":        func(f *Forest) { f.nodes[9].down, f.nodes[9].up = math.MaxInt, math.MinInt },
		"arcs at one end of int":          func(f *Forest) { f.nodes[9].down, f.nodes[9].up = math.MaxInt-1, math.MaxInt },
		"an arc down of a root":           func(f *Forest) { f.tours.Add(f.nodes[9].down, 0) },
		"an arc up of a root":             func(f *Forest) { f.tours.Add(f.nodes[9].up, 0) },
		"an arc down of a root, toured":   func(f *Forest) { f.comes(f.nodes[9].down, 9) },
		"an arc up of a root, toured":     func(f *Forest) { f.comes(f.nodes[9].up, 9) },
		"an arc down of one that went":    func(f *Forest) { f.tours.Add(f.nodes[8].down, 0) },
		"an arc up of one that went":      func(f *Forest) { f.tours.Add(f.nodes[8].up, 0) },
		"an arc of one that went, toured": func(f *Forest) { f.comes(f.nodes[8].down, 9) },
		"an arc down that weighs":         func(f *Forest) { f.tours.Set(f.nodes[4].down, 1) },
		"an arc up that weighs":           func(f *Forest) { f.tours.Set(f.nodes[4].up, -1) },
		"a tour cut ahead of an arc":      func(f *Forest) { f.tours.Before(f.nodes[4].down) },
		"a tour cut ahead of a node":      func(f *Forest) { f.tours.Before(item(0)) },
		"a tour cut ahead of its end":     func(f *Forest) { f.tours.Before(f.nodes[7].up) },
		"a node in no tour":               func(f *Forest) { f.take(item(3)) },
		"a node that went from its tour":  func(f *Forest) { f.take(item(3)); f.tours.Drop(item(3)) },
		"an arc in no tour":               func(f *Forest) { f.take(f.nodes[3].down) },
		"an arc that went":                func(f *Forest) { f.take(f.nodes[7].up); f.tours.Drop(f.nodes[7].up) },
		"arcs that went": func(f *Forest) {
			f.take(f.nodes[7].up)
			f.tours.Drop(f.nodes[7].up)
			f.take(f.nodes[7].down)
			f.tours.Drop(f.nodes[7].down)
		},
		"a node ahead of its arcs":        func(f *Forest) { f.move(item(7), f.nodes[7].down) },
		"a node in another one's arcs":    func(f *Forest) { f.move(item(4), f.nodes[0].up) },
		"a node in another one's tour":    func(f *Forest) { f.move(item(4), f.nodes[7].down) },
		"a kid below another one":         func(f *Forest) { f.move(f.nodes[0].down, f.nodes[4].up); f.move(f.nodes[4].up, f.nodes[0].up) },
		"arcs that cross":                 func(f *Forest) { f.move(f.nodes[2].up, f.nodes[0].up); f.move(f.nodes[0].up, f.nodes[2].up) },
		"arcs that end ahead":             func(f *Forest) { f.move(f.nodes[4].up, f.nodes[4].down) },
		"a tour turned, not its parents":  func(f *Forest) { f.turn(7) },
		"a tour with its root at its end": func(f *Forest) { f.tours.Before(f.nodes[7].down); f.tours.Join(item(7), item(6)) },
		"two tours in one":                func(f *Forest) { f.tours.Join(item(9), item(6)) },
		"a node that nobody knows":        func(f *Forest) { f.nodes = f.nodes[:9]; f.tours.Join(item(6), item(9)) },
		"an arc that nobody knows":        func(f *Forest) { f.Drop(9); f.nodes = f.nodes[:9]; f.comes(item(9)+1, 6) },
	} {
		each(t, func(t *testing.T, kind int) {
			f := whole(kind)
			if !f.Check() || f.Parent(4) != 1 || f.Root(4) != 5 {
				t.Fatal("Check: got false of what is whole")
			}
			if spoil(f); f.Check() {
				t.Errorf("Check of %s: got true", what)
			}
		})
	}
}

// P9.1: Check looks at the arcs of roots, too, if there are no others.
func TestCheckOfRoots(t *testing.T) {
	each(t, func(t *testing.T, kind int) {
		f := New(kind, 2)
		f.Add(0, 1)
		f.Add(1, 2)
		if !f.Check() {
			t.Error("Check: got false of two roots")
		}
		f.nodes[0].up, f.nodes[1].up = f.nodes[1].up, f.nodes[0].up
		if f.Check() {
			t.Error("Check: got true of roots whose arcs are no pairs")
		}
	})
}
