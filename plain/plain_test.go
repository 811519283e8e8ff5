package plain

import (
	"math"
	"testing"
)

// What every forest is promised to do is tested in package forests: here is what lists of parents and weights must be.

const (
	most = 1 << 20 // written out, not taken from api: how many nodes and which weights there may be is part of the promise
	end  = 1 << 40
)

// grown is a forest of two trees and a gap: 1 and 2 below 0, 3 and 4 below 1, 5 below 3; 7 below 6; 8 isn't there, 9 is a root alone.
func grown() *Forest {
	f := New(10)
	for v := range 10 {
		f.Add(v, 10*v-3)
	}
	for _, l := range [][2]int{{1, 0}, {2, 0}, {3, 1}, {4, 1}, {5, 3}, {7, 6}} {
		f.Link(l[0], l[1])
	}
	f.Drop(8)
	return f
}

// P5.1: Check is false of what the chapter doesn't have, and ends there too.
func TestCheckOfBroken(t *testing.T) {
	for what, spoil := range map[string]func(f *Forest){
		"a parent that isn't there":      func(f *Forest) { f.parents[9] = 8 },
		"a parent past the nodes":        func(f *Forest) { f.parents[9] = 10 },
		"a parent at an end of int":      func(f *Forest) { f.parents[9] = math.MaxInt },
		"a parent at the other end":      func(f *Forest) { f.parents[9] = math.MinInt },
		"a node that is its own parent":  func(f *Forest) { f.parents[9] = 9 },
		"two that are below each other":  func(f *Forest) { f.parents[6] = 7 },
		"a root below its own tree":      func(f *Forest) { f.parents[0] = 5 },
		"a weight past its end":          func(f *Forest) { f.weights[4] = end + 1 },
		"a root's weight past its end":   func(f *Forest) { f.weights[0] = -end - 1 },
		"a weight of a node that's gone": func(f *Forest) { f.weights[8] = 1 },
		"a parent that went":             func(f *Forest) { f.parents[6] = gone },
		"fewer weights than parents":     func(f *Forest) { f.weights = f.weights[:9] },
		"more weights than parents":      func(f *Forest) { f.weights = append(f.weights, 0) },
		"more nodes than room":           func(f *Forest) { f.room = 9 },
		"room below none":                func(f *Forest) { f.room = -1 },
		"room past the limit":            func(f *Forest) { f.room = most + 1 },
	} {
		f := grown()
		if !f.Check() {
			t.Fatal("Check: got false of what is whole")
		}
		if spoil(f); f.Check() {
			t.Errorf("Check of %s: got true", what)
		}
	}
}
