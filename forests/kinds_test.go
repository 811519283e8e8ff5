// Package forests tests layers 5 and 8 to 10 side by side: what is promised of the first is promised of the others, word by word.
package forests

import (
	"testing"

	"arboretum/api"
	"arboretum/heavy"
	"arboretum/link"
	"arboretum/plain"
	"arboretum/tour"
)

// forest is what all kinds have.
type forest interface {
	Has(v int) bool
	Add(v, w int) bool
	Drop(v int) bool
	Root(v int) int
	Parent(v int) int
	Same(a, b int) bool
	Link(c, p int) bool
	Cut(c int) bool
	Evert(v int) bool
	Lca(a, b int) int
	Get(v int) (int, bool)
	Set(v, w int) bool
	Path(a, b int) (api.Sum, bool)
	PathAdd(a, b, by int) bool
	Sub(v int) (int, int, bool)
	Size(v int) int
	Check() bool
}

type kind struct {
	name string
	make func(n int) forest // nil itself, where New answers a nil forest
	none forest             // a nil forest
}

func kinds() []kind {
	return []kind{
		{"plain", func(n int) forest {
			if f := plain.New(n); f != nil {
				return f
			}
			return nil
		}, (*plain.Forest)(nil)},
		{"link", func(n int) forest {
			if f := link.New(n); f != nil {
				return f
			}
			return nil
		}, (*link.Forest)(nil)},
		tours("tour, avl", api.Avl),
		tours("tour, btree", api.Btree),
		{"heavy", func(n int) forest {
			if f := heavy.New(n); f != nil {
				return f
			}
			return nil
		}, (*heavy.Forest)(nil)},
	}
}

// tours is a kind of layer 9, in sequences of this kind.
func tours(name string, sequences int) kind {
	return kind{name, func(n int) forest {
		if f := tour.New(sequences, n); f != nil {
			return f
		}
		return nil
	}, (*tour.Forest)(nil)}
}

// each runs a test of every kind.
func each(t *testing.T, test func(t *testing.T, k kind)) {
	for _, k := range kinds() {
		t.Run(k.name, func(t *testing.T) {
			t.Parallel()
			test(t, k)
		})
	}
}
