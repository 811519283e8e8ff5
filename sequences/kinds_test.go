// Package sequences tests layers 6 and 7 side by side: what is promised of the one is promised of the other, word by word.
package sequences

import (
	"testing"

	"arboretum/api"
	"arboretum/avl"
	"arboretum/btree"
)

// pool is what both kinds have.
type pool interface {
	Has(v int) bool
	Add(v, w int) bool
	Drop(v int) bool
	Len(v int) int
	Rank(v int) int
	At(v, k int) int
	Same(a, b int) bool
	Before(v int) bool
	Join(a, b int) bool
	Get(v int) (int, bool)
	Set(v, w int) bool
	Range(a, b int) (api.Sum, bool)
	Lift(a, b, by int) bool
	All(v int) api.Sum
	Check() bool
}

type kind struct {
	name string
	make func(n int) pool // nil itself, where New answers a nil pool
	none pool             // a nil pool
}

func kinds() []kind {
	return []kind{
		{"avl", func(n int) pool {
			if p := avl.New(n); p != nil {
				return p
			}
			return nil
		}, (*avl.Pool)(nil)},
		{"btree", func(n int) pool {
			if p := btree.New(n); p != nil {
				return p
			}
			return nil
		}, (*btree.Pool)(nil)},
	}
}

// each runs a test of every kind.
func each(t *testing.T, test func(t *testing.T, k kind)) {
	for _, k := range kinds() {
		t.Run(k.name, func(t *testing.T) {
			t.Parallel()
			test(t, k)
		})
	}
}
