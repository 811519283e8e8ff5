package btree

import (
	"math/rand"
	"reflect"
	"slices"
	"testing"

	"arboretum/api"
)

// What every pool of sequences is promised to do is tested in package sequences: here is what a B-tree's knots must be.

const (
	room = 1 << 22 // written out, not taken from api: how many items and which weights there may be is part of the promise
	end  = 1 << 40
)

// row is one sequence of all n items, in their order, with room for none more.
func row(n int) *Pool {
	p := New(n)
	for v := range n {
		p.Add(v, 10*v-33)
		p.Join(0, v)
	}
	return p
}

// wantKnots looks at all knots of v's sequence, not by Check: how many parts they have, what they are below, that all items are equally low.
func wantKnots(t *testing.T, p *Pool, v int) {
	t.Helper()
	top := p.items[v].top()
	var look func(k *knot, height int)
	look = func(k *knot, height int) {
		if k.height != height {
			t.Fatalf("a knot is %d high, want %d", k.height, height)
		}
		if height == 0 {
			if len(k.parts) != 0 || p.items[k.item] != k {
				t.Fatalf("item %d: %+v", k.item, k)
			}
			return
		}
		if n := len(k.parts); n > 8 || n < 4 && (k != top || n < 2) {
			t.Fatalf("a knot %d high, of %d, has %d parts", height, top.height, n)
		}
		for _, part := range k.parts {
			if part.up != k {
				t.Fatalf("a part of a knot %d high doesn't know it", height)
			}
			look(part, height-1)
		}
	}
	look(top, top.height)
}

// wantRow holds the order of a sequence against a list.
func wantRow(t *testing.T, p *Pool, want []int) {
	t.Helper()
	wantKnots(t, p, want[0])
	if p.Len(want[0]) != len(want) || !p.Check() {
		t.Fatalf("length %d, want %d", p.Len(want[0]), len(want))
	}
	for place, v := range want {
		if p.Rank(v) != place || p.At(want[0], place) != v {
			t.Fatalf("%d is at place %d, want %d; there is %d", v, p.Rank(v), place, p.At(want[0], place))
		}
	}
}

func upTo(n int) []int {
	l := make([]int, n)
	for v := range l {
		l[v] = v
	}
	return l
}

// Knots have 4 to 8 parts, the top 2 to 8, whether a sequence grows at its end, at its beginning, or by halves.
func TestKnotsGrow(t *testing.T) {
	const n = 700
	behind, ahead := New(n), New(n)
	for v := range n {
		behind.Add(v, v)
		behind.Join(0, v)
		wantKnots(t, behind, 0)
		ahead.Add(v, v)
		ahead.Join(v, 0)
		wantKnots(t, ahead, 0)
	}
	wantRow(t, behind, upTo(n))
	turned := upTo(n)
	slices.Reverse(turned)
	wantRow(t, ahead, turned)
	halves := New(1024)
	for v := range 1024 {
		halves.Add(v, v)
	}
	for half := 1; half < 1024; half *= 2 {
		for v := 0; v < 1024; v += 2 * half {
			halves.Join(v, v+half)
			wantKnots(t, halves, v)
		}
	}
	wantRow(t, halves, upTo(1024))
}

// How many rows of knots there are: from 8 parts to a knot up, to 4 parts to a knot below a top of 2. (For these lengths both are the same.)
func TestRows(t *testing.T) {
	for _, c := range []struct{ n, high int }{{1, 0}, {2, 1}, {4, 1}, {5, 1}, {7, 1}, {8, 1}, {9, 2}, {31, 2}, {65, 3}, {127, 3}} {
		if got := row(c.n).items[0].top().height; got != c.high {
			t.Errorf("%d items: %d rows, want %d", c.n, got, c.high)
		}
	}
	r := rand.New(rand.NewSource(7))
	const n = 1 << 14
	p := row(n)
	for range 2000 {
		v := r.Intn(n)
		if first := p.At(v, 0); p.Before(v) {
			p.Join(v, first)
		}
	}
	wantKnots(t, p, 0)
	// 2 * 4^6 items are the fewest that 7 rows hold, and 8^4 the most that 4 hold.
	if high := p.items[0].top().height; p.Len(0) != n || high < 5 || high > 7 {
		t.Errorf("%d items: %d rows", n, high)
	}
}

// Knots have 4 to 8 parts in both pieces of a cut ahead of any item, and when these are joined again, or the other way round.
func TestKnotsOfPieces(t *testing.T) {
	for _, n := range []int{2, 3, 4, 5, 8, 9, 12, 16, 17, 32, 33, 64, 65, 66, 150} {
		for v := 1; v < n; v++ {
			p := row(n)
			if !p.Before(v) {
				t.Fatalf("not cut ahead of %d of %d", v, n)
			}
			wantRow(t, p, upTo(n)[:v])
			wantRow(t, p, upTo(n)[v:])
			p.Join(v, 0)
			wantRow(t, p, append(upTo(n)[v:], upTo(n)[:v]...))
			p.Before(0)
			p.Join(0, v)
			wantRow(t, p, upTo(n))
		}
	}
}

// Knots have 4 to 8 parts when sequences of any two lengths are joined, and cut there again.
func TestKnotsOfPairs(t *testing.T) {
	lengths := append(upTo(34)[1:], 63, 64, 65, 128, 129, 256, 257, 512, 513)
	for _, a := range lengths {
		for _, b := range lengths {
			p := row(a + b)
			p.Before(a)
			p.Join(0, a)
			wantRow(t, p, upTo(a+b))
			p.Before(a)
			p.Join(a, 0)
			wantKnots(t, p, 0)
		}
	}
}

// What is raised waits at a knot: at the top for all, at a knot for just what it holds, and it is handed on where a cut or a joining goes by.
func TestWaits(t *testing.T) {
	const n = 200
	p := row(n)
	top := p.items[0].top()
	if !p.Lift(0, n-1, 1000) || top.wait != 1000 || p.items[7].sum.Sum != 10*7-33 {
		t.Fatalf("all raised: %d wait at the top", top.wait)
	}
	for _, part := range top.parts {
		if part.wait != 0 {
			t.Fatalf("all raised: %d wait at a part", part.wait)
		}
	}
	part := top.parts[1]
	first, last := part.at(0), part.at(part.sum.Count-1)
	if !p.Lift(first, last, 5) || top.wait != 0 || part.wait != 1005 || top.parts[0].wait != 1000 {
		t.Fatalf("a part raised: %d wait there, %d at the top", part.wait, top.wait)
	}
	if w, ok := p.Get(first); !ok || w != 10*first-33+1005 {
		t.Fatalf("a part raised: %d weighs %d", first, w)
	}
	if !p.Before(first+1) || !p.Join(first+1, first) {
		t.Fatal("not cut and joined")
	}
	for v := range n {
		want := 10*v - 33 + 1000
		if v >= first && v <= last {
			want += 5
		}
		if w, ok := p.Get(v); !ok || w != want {
			t.Fatalf("%d weighs %d, want %d", v, w, want)
		}
	}
	if !p.Check() {
		t.Error("Check: got false")
	}
}

// kept is all that is kept of a pool's knots, in the order of the items' ways up.
func kept(p *Pool) []knot {
	var all []knot
	for _, k := range p.items {
		for ; k != nil; k = k.up {
			is := *k
			is.parts = slices.Clone(k.parts)
			all = append(all, is)
		}
	}
	return all
}

// What is asked changes nothing that is kept.
func TestAskingLeaves(t *testing.T) {
	const n = 100
	p := row(n)
	if !p.Lift(3, 77, 50) || !p.Before(41) || !p.Lift(0, 40, 7) {
		t.Fatal("not raised and cut")
	}
	before := kept(p)
	for a := range n {
		p.Has(a)
		p.Len(a)
		p.Get(a)
		p.All(a)
		for b := range n {
			p.At(a, b)
			p.Same(a, b)
			p.Range(a, b)
		}
		p.At(0, p.Rank(a))
	}
	if !p.Check() || !slices.EqualFunc(before, kept(p), sameKnot) {
		t.Error("asking changed a knot")
	}
}

func sameKnot(a, b knot) bool {
	same := slices.Equal(a.parts, b.parts)
	a.parts, b.parts = nil, nil
	return same && a.up == b.up && reflect.DeepEqual(a, b)
}

// P7.1: Check is false of what the chapter doesn't have, and ends there too.
func TestCheckOfBroken(t *testing.T) {
	whole := func() *Pool {
		p := row(101)
		if p.Drop(100) || !p.Before(100) || !p.Drop(100) || !p.Check() {
			t.Fatal("not whole")
		}
		return p
	}
	top := func(p *Pool) *knot { return p.items[0].top() }
	low := func(p *Pool) *knot { return p.items[50].up }
	for what, spoil := range map[string]func(p *Pool){
		"a top above itself":              func(p *Pool) { top(p).up = top(p) },
		"a top below a low knot":          func(p *Pool) { top(p).up = low(p) },
		"a top below one without parts":   func(p *Pool) { top(p).up = &knot{height: 9} },
		"a low knot that is a top":        func(p *Pool) { low(p).up = nil },
		"a first one that is a top":       func(p *Pool) { p.items[0].up = nil },
		"an item below another knot":      func(p *Pool) { p.items[50].up = top(p) },
		"an item below itself":            func(p *Pool) { p.items[50].up = p.items[50] },
		"an item below another item":      func(p *Pool) { p.items[50].up = p.items[51] },
		"an item that is its own part":    func(p *Pool) { p.items[0].up, p.items[0].parts = p.items[0], p.items[:1] },
		"an item that isn't in its place": func(p *Pool) { p.items[50], p.items[51] = p.items[51], p.items[50] },
		"an item in two places":           func(p *Pool) { p.items[100] = p.items[50] },
		"an item of another number":       func(p *Pool) { p.items[50].item = 51 },
		"an item of no number":            func(p *Pool) { p.items[50].item = -1 },
		"an item that is gone":            func(p *Pool) { p.items[50] = nil },
		"a first one that is gone":        func(p *Pool) { p.items[0] = nil },
		"an item with a part":             func(p *Pool) { p.items[50].parts = []*knot{p.items[51]} },
		"what waits at an item":           func(p *Pool) { p.items[50].wait = 1 },
		"an item as high as a knot":       func(p *Pool) { p.items[50].height = 1 },
		"an item lower than items":        func(p *Pool) { p.items[50].height = -1 },
		"a knot that is too high":         func(p *Pool) { low(p).height++ },
		"a knot that is too low":          func(p *Pool) { low(p).height-- },
		"a top that is too high":          func(p *Pool) { top(p).height++ },
		"a part that is nil":              func(p *Pool) { low(p).parts[1] = nil },
		"a part that is there twice":      func(p *Pool) { low(p).parts[0] = low(p).parts[1] },
		"a part left out":                 func(p *Pool) { low(p).parts = low(p).parts[1:] },
		"a top without parts":             func(p *Pool) { top(p).parts = nil },
		"a part of another knot":          func(p *Pool) { low(p).parts[0] = p.items[0] },
		"a foreign part": func(p *Pool) {
			low(p).parts[0] = &knot{up: low(p), item: low(p).parts[0].item, sum: low(p).parts[0].sum}
		},
		"another weight":              func(p *Pool) { p.items[50].sum = api.Sum{Count: 1, Sum: 1, Min: 1, Max: 1} },
		"an item's other count":       func(p *Pool) { p.items[50].sum.Count = 2 },
		"an item's other least one":   func(p *Pool) { p.items[50].sum.Min-- },
		"another count":               func(p *Pool) { top(p).sum.Count++ },
		"another sum":                 func(p *Pool) { top(p).sum.Sum++ },
		"another least one":           func(p *Pool) { top(p).sum.Min-- },
		"another greatest one":        func(p *Pool) { top(p).sum.Max++ },
		"another sum of a low knot":   func(p *Pool) { low(p).sum.Sum++ },
		"more that waits":             func(p *Pool) { top(p).wait++ },
		"more items than room":        func(p *Pool) { p.room = 100 },
		"room below none":             func(p *Pool) { p.room = -1 },
		"room past the limit":         func(p *Pool) { p.room = room + 1 },
		"a weight past its end":       func(p *Pool) { *p = *tree(end + 1) },
		"a weight past its other end": func(p *Pool) { *p = *tree(-end - 1) },
		"a weight past its end, that waits": func(p *Pool) {
			*p = *tree(end, end-1)
			p.items[0].up.raise(1)
		},
		"a weight past its other end, that waits": func(p *Pool) {
			*p = *tree(-end+1, -end)
			p.items[0].up.raise(-1)
		},
		"an item by itself in two places": func(p *Pool) {
			*p = *tree(1)
			p.room, p.items = 2, append(p.items, p.items[0])
		},
		"a part twice, and an item in no tree": func(p *Pool) {
			*p = *tree(1, 2, 3)
			first, twice, nowhere := p.items[0], p.items[1], p.items[2]
			over([]*knot{first, twice, twice})
			nowhere.up = first.up
		},
		"a knot of one part":       func(p *Pool) { *p = *tree(1); over([]*knot{p.items[0]}) },
		"a knot of nine parts":     func(p *Pool) { *p = *tree(1, 2, 3, 4, 5, 6, 7, 8, 9) },
		"knots of three parts":     func(p *Pool) { *p = *parted(3, 3) },
		"a second knot of three":   func(p *Pool) { *p = *parted(4, 3) },
		"a second knot of nine":    func(p *Pool) { *p = *parted(4, 9) },
		"a part that is in itself": func(p *Pool) { low(p).parts[0] = low(p) },
	} {
		p := whole()
		if spoil(p); p.Check() {
			t.Errorf("Check of %s: got true", what)
		}
	}
	for _, p := range []*Pool{tree(1), tree(1, 2), tree(1, 2, 3, 4, 5, 6, 7, 8), tree(end, -end), parted(4, 4), parted(4, 8), parted(8, 5)} {
		if !p.Check() {
			t.Errorf("Check of %d items: got false", len(p.items))
		}
	}
}

// tree is a pool with items of these weights, all in one knot, if there is more than one.
func tree(weights ...int) *Pool {
	p := &Pool{room: len(weights)}
	for v, w := range weights {
		p.items = append(p.items, &knot{item: v, sum: api.Sum{Count: 1, Sum: w, Min: w, Max: w}})
	}
	if len(weights) > 1 {
		over(slices.Clone(p.items))
	}
	return p
}

// parted is a pool with items in two knots of a and b parts.
func parted(a, b int) *Pool {
	p := tree(make([]int, a+b)...)
	over([]*knot{over(slices.Clone(p.items[:a])), over(slices.Clone(p.items[a:]))})
	return p
}
