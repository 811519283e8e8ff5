package avl

import (
	"math"
	"math/bits"
	"math/rand"
	"slices"
	"testing"

	"arboretum/api"
)

// What every pool of sequences is promised to do is tested in package sequences: here is what an AVL tree's slots must be.

const (
	room = 1 << 22 // written out, not taken from api: how many items and which weights there may be is part of the promise
	end  = 1 << 40
)

// row is one sequence of all n items, in their order, with room for none more.
func row(n int) *Pool {
	p := New(n)
	for v := range n {
		p.Add(v, 10*v-33)
		p.Join(0, v)
	}
	return p
}

// What is asked changes nothing that is kept.
func TestAskingLeaves(t *testing.T) {
	const n = 30
	p := row(n)
	if !p.Lift(3, 27, 50) || !p.Before(11) || !p.Lift(0, 10, 7) {
		t.Fatal("not raised and cut")
	}
	kept := slices.Clone(p.slots)
	for a := range n {
		p.Has(a)
		p.Len(a)
		p.Get(a)
		p.All(a)
		for b := range n {
			p.At(a, b)
			p.Same(a, b)
			p.Range(a, b)
		}
		p.At(0, p.Rank(a))
	}
	if !p.Check() || !slices.Equal(kept, p.slots) {
		t.Error("asking changed a slot")
	}
}

// P6.1: Check is false of what the chapter doesn't have, and ends there too.
func TestCheckOfBroken(t *testing.T) {
	row9 := func() *Pool {
		p := row(9)
		if p.Drop(8) || !p.Before(8) || !p.Drop(8) {
			t.Fatal("not dropped")
		}
		return p
	}
	top := row9().top(1)
	leaf := slices.IndexFunc(row9().slots, func(s slot) bool { return s.height == 1 })
	for what, spoil := range map[string]func(p *Pool){
		"a way up that leads nowhere":      func(p *Pool) { p.slots[leaf].up = len(p.slots) },
		"a way up below the slots":         func(p *Pool) { p.slots[leaf].up = -1 },
		"a way up at an end of int":        func(p *Pool) { p.slots[leaf].up = math.MinInt },
		"a way left that leads nowhere":    func(p *Pool) { p.slots[leaf].left = math.MaxInt },
		"a way right that leads nowhere":   func(p *Pool) { p.slots[leaf].right = -7 },
		"a slot below itself":              func(p *Pool) { p.slots[leaf].left = leaf },
		"a top above itself":               func(p *Pool) { p.slots[top].up = top },
		"a top below a leaf":               func(p *Pool) { p.slots[top].up = leaf },
		"a part that doesn't know its top": func(p *Pool) { p.slots[p.slots[top].left].up = none },
		"one part on both sides":           func(p *Pool) { p.slots[top].left = p.slots[top].right },
		"a part left out":                  func(p *Pool) { p.slots[top].left = none },
		"a part that isn't there":          func(p *Pool) { p.slots[leaf].left = 9 },
		"a height that is too great":       func(p *Pool) { p.slots[top].height++ },
		"a height that is too small":       func(p *Pool) { p.slots[top].height-- },
		"a height below 0":                 func(p *Pool) { p.slots[leaf].height = -1 },
		"a height of one that is there":    func(p *Pool) { p.slots[leaf].height = 0 },
		"another weight":                   func(p *Pool) { p.slots[leaf].weight++ },
		"another weight at the top":        func(p *Pool) { p.slots[top].weight-- },
		"another count":                    func(p *Pool) { p.slots[top].sum.Count++ },
		"another sum":                      func(p *Pool) { p.slots[top].sum.Sum++ },
		"another least one":                func(p *Pool) { p.slots[top].sum.Min-- },
		"another greatest one":             func(p *Pool) { p.slots[top].sum.Max++ },
		"more that waits":                  func(p *Pool) { p.slots[top].wait++ },
		"what waits for nobody":            func(p *Pool) { p.slots[leaf].wait = 1 },
		"a weight of one that is gone":     func(p *Pool) { p.slots[9].weight = 1 },
		"a way up of one that is gone":     func(p *Pool) { p.slots[9].up = top },
		"a slot none that is there":        func(p *Pool) { p.slots[none].height = 1 },
		"a slot none that is below":        func(p *Pool) { p.slots[none].up = top },
		"no slot none":                     func(p *Pool) { p.slots = nil },
		"more items than room":             func(p *Pool) { p.room = 8 },
		"room below none":                  func(p *Pool) { p.room = -1 },
		"room past the limit":              func(p *Pool) { p.room = room + 1 },
		"a weight past its end":            func(p *Pool) { *p = *broken(slot{height: 1, weight: end + 1}) },
		"a weight past its other end":      func(p *Pool) { *p = *broken(slot{height: 1, weight: -end - 1}) },
		"a weight past its end, that waits": func(p *Pool) {
			*p = *broken(slot{height: 2, right: 2, weight: 0, wait: end}, slot{height: 1, up: 1, weight: 1})
		},
		"a weight past its other end, that waits": func(p *Pool) {
			*p = *broken(slot{height: 2, left: 2, weight: 0, wait: -end}, slot{height: 1, up: 1, weight: -1})
		},
		"one part on both sides, counted twice": func(p *Pool) {
			*p = *broken(slot{height: 2, left: 2, right: 2}, slot{height: 1, up: 1})
		},
		"a part right of two": func(p *Pool) {
			*p = *broken(slot{height: 2, right: 3}, slot{height: 2, right: 3}, slot{height: 1, up: 1})
		},
		"a part left of two": func(p *Pool) {
			*p = *broken(slot{height: 2, left: 3}, slot{height: 2, left: 3}, slot{height: 1, up: 2})
		},
		"a line": func(p *Pool) {
			*p = *broken(slot{height: 3, right: 2}, slot{height: 2, up: 1, right: 3}, slot{height: 1, up: 2})
		},
		"a line, the other way": func(p *Pool) {
			*p = *broken(slot{height: 3, left: 2}, slot{height: 2, up: 1, left: 3}, slot{height: 1, up: 2})
		},
	} {
		p := row9()
		if !p.Check() {
			t.Fatal("Check: got false of what is whole")
		}
		if spoil(p); p.Check() {
			t.Errorf("Check of %s: got true", what)
		}
	}
}

// broken is a pool of these slots, with the sums that their weights ask for: what is above stands ahead of what is below.
func broken(slots ...slot) *Pool {
	p := &Pool{room: len(slots), slots: append([]slot{{}}, slots...)}
	for t := len(slots); t > 0; t-- {
		s := &p.slots[t]
		s.sum = api.Sum{Count: 1, Sum: s.weight, Min: s.weight, Max: s.weight}
		for _, kid := range []int{s.left, s.right} {
			if below := p.slots[kid].sum; kid != none {
				s.sum.Count += below.Count
				s.sum.Sum += below.Sum + below.Count*s.wait
				s.sum.Min = min(s.sum.Min, below.Min+s.wait)
				s.sum.Max = max(s.sum.Max, below.Max+s.wait)
			}
		}
	}
	return p
}

// The trees are AVL trees: none is higher than 1.45 times what the best could be, however they came to be.
func TestHeights(t *testing.T) {
	const n = 1 << 14
	r := rand.New(rand.NewSource(6))
	p := row(n)
	for range 2000 {
		v := r.Intn(n)
		if first := p.At(v, 0); p.Before(v) {
			p.Join(v, first)
		}
	}
	if high, best := p.slots[p.top(1)].height, bits.Len(n); high < best || 100*high > 145*best {
		t.Errorf("%d items are %d high", n, high)
	}
	if !p.Check() || p.Len(0) != n {
		t.Error("Check: got false")
	}
}
