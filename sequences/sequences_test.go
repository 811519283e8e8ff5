package sequences

import (
	"math"
	"math/rand"
	"testing"

	"arboretum/api"
)

// noItems are numbers that are no item of a pool with room for n.
func noItems(n int) []int {
	return []int{-1, n, n + 1, -2, 1 << 31, math.MinInt, math.MinInt + 1, math.MaxInt, math.MaxInt - 1}
}

// P6.1, P7.1: the chapter's example.
func TestExample(t *testing.T) {
	each(t, func(t *testing.T, k kind) {
		p := k.make(3)
		if !p.Add(0, 5) || !p.Add(1, 7) || !p.Add(2, -1) || !p.Join(0, 1) || !p.Join(1, 2) {
			t.Fatal("not joined")
		}
		want := api.Sum{Count: 3, Sum: 11, Min: -1, Max: 7}
		if s, ok := p.Range(0, 2); !ok || s != want || p.All(1) != want {
			t.Errorf("got %+v, %v and %+v, want %+v", s, ok, p.All(1), want)
		}
		if p.Rank(2) != 2 || p.At(2, 2) != 2 {
			t.Errorf("joined: 2 is at place %d", p.Rank(2))
		}
		if !p.Before(1) || p.Rank(2) != 1 || p.At(1, 1) != 2 || p.At(2, 0) != 1 || p.Same(0, 1) || p.Len(0) != 1 || p.Len(2) != 2 {
			t.Errorf("cut ahead of 1: 2 is at place %d", p.Rank(2))
		}
		if !p.Check() {
			t.Error("Check: got false")
		}
	})
}

// P6.1, P7.1: New, at both ends of how many items there may be, and past them.
func TestNew(t *testing.T) {
	each(t, func(t *testing.T, k kind) {
		for _, n := range []int{0, 1, 2, 1 << 20, 1<<20 + 1, room - 1, room} {
			p := k.make(n)
			if p == nil {
				t.Fatalf("New(%d): got nil", n)
			}
			if !p.Check() || p.Has(0) || p.Has(n-1) || p.Len(0) != 0 {
				t.Errorf("New(%d): something is there", n)
			}
			if n > 0 && !(p.Add(n-1, 1) && p.Has(n-1) && p.Check()) || p.Add(n, 1) || p.Has(n) {
				t.Errorf("New(%d): its last item", n)
			}
		}
		for _, n := range []int{-1, room + 1, -room, 1 << 31, math.MinInt, math.MaxInt} {
			if k.make(n) != nil {
				t.Errorf("New(%d): not nil", n)
			}
		}
	})
}

// P6.1, P7.1: a pool without room, and one with room for one item.
func TestSmallest(t *testing.T) {
	each(t, func(t *testing.T, k kind) {
		x := newBoth(t, k, 0)
		for _, v := range append(noItems(0), 0) {
			x.add(v, 1, false)
			x.drop(v, false)
			x.before(v, false)
			x.set(v, 1, false)
		}
		x.same()
		x = newBoth(t, k, 1)
		x.same()
		x.add(0, 4, true)
		x.add(1, 4, false)
		x.add(-1, 4, false)
		x.same()
		x.drop(0, true)
		x.same()
	})
}

// P6.1, P7.1: which items may be added: the ends, what is past them, and what is there.
func TestAddItems(t *testing.T) {
	each(t, func(t *testing.T, k kind) {
		x := newBoth(t, k, 6)
		for _, v := range noItems(6) {
			x.add(v, 0, false)
		}
		x.same()
		for _, v := range []int{5, 0, 3} {
			x.add(v, v+10, true)
			x.same()
			x.add(v, v+11, false)
			x.add(v, v+10, false)
			x.same()
		}
		x.join(5, 0, true)
		x.add(0, 1, false)
		x.add(5, 1, false)
		x.same()
	})
}

// P6.1, P7.1: which weights may be added and set: the ends and what is past them.
func TestWeights(t *testing.T) {
	each(t, func(t *testing.T, k kind) {
		good := []int{0, 1, -1, end - 1, end, -end + 1, -end}
		wrong := []int{end + 1, -end - 1, step, -step, math.MaxInt, math.MinInt, math.MaxInt - end, math.MinInt + end}
		x := newBoth(t, k, 8)
		for _, w := range wrong {
			x.add(0, w, false)
		}
		x.same()
		for v, w := range good {
			x.add(v, w, true)
		}
		x.same()
		for v := 1; v < len(good); v++ {
			x.join(0, v, true)
		}
		for v := range len(good) {
			for _, w := range wrong {
				x.set(v, w, false)
			}
			x.same()
			for _, w := range good {
				x.set(v, w, true)
				x.same()
			}
		}
		x.set(7, 1, false)
		for _, v := range noItems(8) {
			x.set(v, 1, false)
		}
		x.same()
	})
}

// P6.1, P7.1: just an item that is there, by itself, goes; it may come again, with another weight.
func TestDrop(t *testing.T) {
	each(t, func(t *testing.T, k kind) {
		x := mixed(t, k)
		for _, v := range append(noItems(9), 6, 0, 1, 2, 3, 4, 5, 7) {
			x.drop(v, false)
		}
		x.same()
		x.drop(8, true)
		x.same()
		x.drop(8, false)
		x.add(8, 999, true)
		x.same()
		x.join(8, 3, true)
		x.drop(8, false)
		x.before(3, true)
		x.lift(8, 8, -5, true)
		x.drop(8, true)
		x.drop(3, false)
		x.add(8, end, true)
		x.add(6, -end, true)
		x.same()
		x.join(6, 8, true)
		x.same()
	})
}

// P6.1, P7.1: what waited for an item goes with it.
func TestDropRaised(t *testing.T) {
	each(t, func(t *testing.T, k kind) {
		x := row(t, k, 3)
		x.lift(0, 2, 100, true)
		x.before(1, true)
		x.before(2, true)
		for v := range 3 {
			x.lift(v, v, 7, true)
			x.drop(v, true)
		}
		x.same()
		for v := range 3 {
			x.add(v, v, true)
			x.join(0, v, v > 0)
		}
		x.same()
	})
}

// P6.1, P7.1: items that aren't there, for every method.
func TestNotThere(t *testing.T) {
	each(t, func(t *testing.T, k kind) {
		x := mixed(t, k)
		for _, v := range append(noItems(9), 6) {
			x.drop(v, false)
			x.before(v, false)
			x.set(v, 1, false)
			for _, u := range []int{0, 3, 7, 8, v} {
				x.join(v, u, false)
				x.join(u, v, false)
				x.lift(v, u, 1, false)
				x.lift(u, v, 1, false)
				wantPair(t, x.p, x.m, u, v)
				wantPair(t, x.p, x.m, v, u)
			}
			for _, place := range []int{-1, 0, 1} {
				if got := x.p.At(v, place); got != -1 {
					t.Errorf("At(%d, %d): got %d", v, place, got)
				}
			}
			if w, ok := x.p.Get(v); x.p.Has(v) || x.p.Len(v) != 0 || x.p.Rank(v) != -1 || w != 0 || ok || x.p.All(v) != (api.Sum{}) {
				t.Errorf("%d: it is there", v)
			}
		}
		x.same()
	})
}

// P6.1, P7.1: a sequence of one item.
func TestAlone(t *testing.T) {
	each(t, func(t *testing.T, k kind) {
		x := newBoth(t, k, 3)
		x.add(1, 9, true)
		want := api.Sum{Count: 1, Sum: 9, Min: 9, Max: 9}
		if s, ok := x.p.Range(1, 1); !ok || s != want || x.p.All(1) != want || x.p.Len(1) != 1 || x.p.Rank(1) != 0 || x.p.At(1, 0) != 1 || x.p.At(1, 1) != -1 || x.p.At(1, -1) != -1 || !x.p.Same(1, 1) {
			t.Errorf("alone: got %+v, %v", s, ok)
		}
		x.before(1, false)
		x.join(1, 1, false)
		x.lift(1, 1, 5, true)
		x.lift(1, 1, end, false)
		x.same()
		x.set(1, -3, true)
		x.same()
		x.drop(1, true)
		x.same()
	})
}

// P6.1, P7.1: places, at their ends and past them.
func TestPlaces(t *testing.T) {
	each(t, func(t *testing.T, k kind) {
		x := mixed(t, k)
		tests := []struct{ v, k, want int }{
			{3, 0, 3}, {3, 1, 0}, {3, 2, 5}, {3, 3, 1}, {3, 4, 4}, {3, 5, -1}, {3, -1, -1},
			{4, 0, 3}, {4, 4, 4}, {4, 5, -1}, {5, 0, 3}, {5, -1, -1},
			{7, 0, 7}, {7, 1, 2}, {2, 1, 2}, {2, 2, -1}, {8, 0, 8}, {8, 1, -1},
			{3, math.MaxInt, -1}, {3, math.MinInt, -1}, {6, 0, -1}, {6, -1, -1}, {-1, 0, -1}, {9, 0, -1},
		}
		for _, c := range tests {
			if got := x.p.At(c.v, c.k); got != c.want {
				t.Errorf("At(%d, %d): got %d, want %d", c.v, c.k, got, c.want)
			}
		}
	})
}

// P6.1, P7.1: Join is refused within one sequence, and the order is a's, then b's.
func TestJoin(t *testing.T) {
	each(t, func(t *testing.T, k kind) {
		x := mixed(t, k)
		for _, l := range [][]int{{3, 0, 5, 1, 4}, {7, 2}, {8}} {
			for _, a := range l {
				for _, b := range l {
					x.join(a, b, false)
				}
			}
		}
		x.same()
		x.join(2, 1, true)
		x.same()
		if x.p.Rank(7) != 0 || x.p.Rank(2) != 1 || x.p.Rank(3) != 2 || x.p.Rank(4) != 6 {
			t.Errorf("joined: 3 is at place %d", x.p.Rank(3))
		}
		x.join(8, 4, true)
		x.same()
		x.join(8, 7, false)
		x.same()
	})
}

// P6.1, P7.1: Before is refused ahead of the first one, and cuts ahead of every other one.
func TestBefore(t *testing.T) {
	each(t, func(t *testing.T, k kind) {
		for _, v := range []int{3, 7, 8} {
			x := mixed(t, k)
			x.before(v, false)
			x.same()
		}
		for _, v := range []int{0, 5, 1, 4, 2} {
			x := mixed(t, k)
			x.before(v, true)
			x.same()
			x.before(v, false)
			x.same()
		}
	})
}

// sizes are lengths about which a knot of a B-tree, and a row of knots, is full, and some that are long.
func sizes() []int {
	return []int{2, 3, 4, 5, 8, 9, 10, 16, 17, 33, 64, 65, 100, 300}
}

// P6.1, P6.2, P7.1, P7.2: a sequence is cut ahead of each of its items, and joined again; its order stays.
func TestCutAndJoin(t *testing.T) {
	each(t, func(t *testing.T, k kind) {
		for _, n := range sizes() {
			x := row(t, k, n)
			x.before(0, false)
			for v := 1; v < n; v++ {
				x.before(v, true)
				if x.p.Same(v-1, v) || x.p.Len(0) != v || x.p.Len(v) != n-v || x.p.At(v, 0) != v || x.p.At(0, v-1) != v-1 || !x.p.Check() {
					t.Fatalf("cut ahead of %d: %d and %d", v, x.p.Len(0), x.p.Len(v))
				}
				x.join(v/2, v+v*11%(n-v), true)
				if x.p.Len(v) != n || x.p.Rank(v) != v {
					t.Fatalf("joined: %d is at place %d of %d", v, x.p.Rank(v), x.p.Len(v))
				}
				if v%50 == 0 {
					x.items()
				}
			}
			x.items()
		}
	})
}

// P6.1, P6.2, P7.1, P7.2: a sequence is cut ahead of each of its items, and joined the other way round.
func TestCutAndTurn(t *testing.T) {
	each(t, func(t *testing.T, k kind) {
		for _, n := range sizes() {
			x := row(t, k, n)
			for i := range n {
				v := i * 97 % n
				first := x.p.At(v, 0)
				x.before(v, first != v)
				x.join(v, first, first != v)
				// Turned round and round, it is the same ring.
				if x.p.Rank(v) != 0 || x.p.Len(v) != n || x.p.At(v, n-1) != (v+n-1)%n || x.p.At(v, n/2) != (v+n/2)%n || !x.p.Check() {
					t.Fatalf("%d is at place %d of %d", v, x.p.Rank(v), x.p.Len(v))
				}
				if i%50 == 0 {
					x.items()
				}
			}
			x.items()
		}
	})
}

// P6.1, P6.2, P7.1, P7.2: a sequence is cut into single items from either end, and joined from either end.
func TestSingly(t *testing.T) {
	each(t, func(t *testing.T, k kind) {
		const n = 130
		x := row(t, k, n)
		for v := 1; v < n; v++ {
			x.before(v, true)
			if v%13 == 0 {
				x.items()
			}
		}
		x.items()
		for v := n - 2; v >= 0; v-- {
			x.join(v, v+1, true)
			if v%13 == 0 {
				x.items()
			}
		}
		x.items()
		for v := n - 1; v > 0; v-- {
			x.before(v, true)
		}
		x.items()
		for v := range n - 1 {
			x.join(v+1, v, true)
		}
		x.items()
		for v := range n {
			if x.p.Rank(v) != n-1-v {
				t.Fatalf("turned round: %d is at place %d", v, x.p.Rank(v))
			}
		}
	})
}

// P6.1, P6.2, P7.1, P7.2: sequences of all pairs of short lengths, and short ones with long ones, joined, and cut where they were joined.
func TestLengths(t *testing.T) {
	each(t, func(t *testing.T, k kind) {
		lengths := []int{1, 2, 3, 4, 5, 6, 7, 8, 9, 12, 13, 20, 21, 33, 64, 65, 100, 200, 513}
		for _, a := range lengths {
			for _, b := range lengths {
				x := newBoth(t, k, a+b)
				for v := range a + b {
					x.add(v, v*v-50*v, true)
					if v > 0 && v != a {
						x.join(v-1, v, true)
					}
				}
				x.lift(0, a-1, 5, true)
				x.lift(a, a+b-1, -5, true)
				x.join(a/2, a+b/2, true)
				x.items()
				x.lift(0, a+b-1, 1000, true)
				x.before(a, true)
				x.items()
				x.join(a, 0, true)
				x.items()
			}
		}
	})
}

// P6.2, P7.2: of two items that stay in one sequence, whatever is cut and joined, the one that was ahead is ahead.
func TestOrderStays(t *testing.T) {
	each(t, func(t *testing.T, k kind) {
		r := rand.New(rand.NewSource(62))
		const n = 60
		for range 40 {
			p, order := k.make(n), r.Perm(n)
			for i, v := range order {
				p.Add(v, i)
				p.Join(order[0], v)
			}
			// Pieces are put together again as they were cut, in any order of the cuts and the joinings.
			for range 200 {
				if i := 1 + r.Intn(n-1); p.Same(order[i-1], order[i]) {
					p.Before(order[i])
				} else {
					p.Join(order[i-1], order[i])
				}
				for i := 1; i < n; i++ {
					if p.Same(order[i-1], order[i]) && p.Rank(order[i-1])+1 != p.Rank(order[i]) {
						t.Fatalf("%d isn't next to %d", order[i-1], order[i])
					}
				}
			}
			for i := 1; i < n; i++ {
				p.Join(order[i-1], order[i])
			}
			for i, v := range order {
				if w, _ := p.Get(v); p.Rank(v) != i || w != i {
					t.Fatalf("%d is at place %d with weight %d, want %d", v, p.Rank(v), w, i)
				}
			}
		}
	})
}

// P6.1, P7.1: ranges of one item, of all, of two sequences, and with their ends turned round.
func TestRange(t *testing.T) {
	each(t, func(t *testing.T, k kind) {
		x := mixed(t, k)
		for _, c := range []struct {
			a, b int
			want api.Sum
		}{
			{3, 3, api.Sum{Count: 1, Sum: -3, Min: -3, Max: -3}},
			{5, 5, api.Sum{Count: 1, Sum: 17, Min: 17, Max: 17}},
			{4, 4, api.Sum{Count: 1, Sum: 7, Min: 7, Max: 7}},
			{3, 4, api.Sum{Count: 5, Sum: -35, Min: -33, Max: 17}},
			{0, 1, api.Sum{Count: 3, Sum: -39, Min: -33, Max: 17}},
			{3, 0, api.Sum{Count: 2, Sum: -36, Min: -33, Max: -3}},
			{7, 2, api.Sum{Count: 2, Sum: 24, Min: -13, Max: 37}},
		} {
			if s, ok := x.p.Range(c.a, c.b); !ok || s != c.want {
				t.Errorf("Range(%d, %d): got %+v, %v, want %+v", c.a, c.b, s, ok, c.want)
			}
		}
		for _, c := range [][2]int{{4, 3}, {0, 3}, {1, 5}, {2, 7}, {3, 7}, {7, 3}, {8, 3}, {4, 8}, {3, 6}, {6, 6}, {-1, 3}, {3, 9}} {
			if s, ok := x.p.Range(c[0], c[1]); ok || s != (api.Sum{}) {
				t.Errorf("Range(%d, %d): got %+v, %v, want none", c[0], c[1], s, ok)
			}
			for _, by := range []int{0, 1, -1, end, math.MaxInt, math.MinInt} {
				x.lift(c[0], c[1], by, false)
			}
		}
		x.same()
	})
}

// P6.1, P7.1: every range of a sequence is raised, and back, and nothing beside it is.
func TestLiftRanges(t *testing.T) {
	each(t, func(t *testing.T, k kind) {
		const n = 24
		x := row(t, k, n)
		for a := range n {
			for b := a; b < n; b++ {
				x.lift(a, b, 1+a*b, true)
				x.items()
			}
		}
		x.same()
		for a := range n {
			for b := a; b < n; b++ {
				x.lift(a, b, -1-a*b, true)
			}
		}
		x.same()
		if w, _ := x.p.Get(n - 1); w != 10*(n-1)-33 {
			t.Errorf("raised and back: got %d", w)
		}
	})
}

// P6.1, P7.1: where one weight of a range can't be raised, none is: the last one alone, or any other one, to whichever end.
func TestLiftAllOrNone(t *testing.T) {
	each(t, func(t *testing.T, k kind) {
		const n = 20
		for v := range n {
			x := row(t, k, n)
			x.set(v, end, true)
			x.lift(0, n-1, 1, false)
			x.lift(0, v, 1, false)
			x.lift(v, n-1, 1, false)
			x.lift(0, v, end, false)
			x.items()
			x.lift(0, v, -1, true)
			x.lift(0, v, 1, true)
			if v > 0 {
				x.lift(0, v-1, 1, true)
			}
			if v < n-1 {
				x.lift(v+1, n-1, 1, true)
			}
			x.items()
			x.set(v, -end, true)
			x.lift(0, n-1, -1, false)
			x.lift(0, v, -1, false)
			x.lift(v, n-1, -1, false)
			x.lift(v, v, -1, false)
			x.items()
			x.lift(v, n-1, 1, true)
			x.lift(v, n-1, -1, true)
			x.same()
		}
	})
}

// P6.1, P7.1: by how much a range may be raised, at its ends and past them.
func TestLiftBy(t *testing.T) {
	each(t, func(t *testing.T, k kind) {
		x := newBoth(t, k, 5)
		for v := range 5 {
			x.add(v, -end, true)
			x.join(0, v, v > 0)
		}
		for _, by := range []int{-1, step + 1, math.MaxInt, math.MinInt, math.MaxInt - end, math.MinInt + end, 1 << 62, -1 << 62} {
			x.lift(0, 4, by, false)
			x.lift(2, 2, by, false)
		}
		x.same()
		x.lift(0, 4, step, true)
		x.same()
		for _, by := range []int{1, -step - 1, math.MaxInt, math.MinInt, math.MinInt + end, 1 << 62, -1 << 62} {
			x.lift(0, 4, by, false)
		}
		x.same()
		x.lift(0, 4, -step, true)
		x.lift(0, 2, end, true)
		x.lift(1, 4, 1, true)
		x.lift(0, 4, 0, true)
		x.same()
	})
}

// P6.1, P7.1: what is raised again and again, from end to end, while all of it waits.
func TestLiftWaits(t *testing.T) {
	each(t, func(t *testing.T, k kind) {
		x := newBoth(t, k, 40)
		for v := range 40 {
			x.add(v, -end, true)
			x.join(0, v, v > 0)
		}
		for i := range 50 {
			x.lift(0, 39, step-1, true)
			x.lift(0, 39, 1, true)
			x.lift(0, 39, 1, false)
			x.lift(i%40, i%40, -7, true)
			x.lift(i%40, i%40, 7, true)
			x.lift(0, 39, -step, true)
			x.lift(0, 39, -1, false)
			x.items()
		}
		x.same()
	})
}

// P6.1, P7.1: a part is raised, then cut, joined and asked; what was raised goes with its items alone.
func TestLiftThenCut(t *testing.T) {
	each(t, func(t *testing.T, k kind) {
		const n = 50
		for _, c := range []struct{ a, b, cut int }{
			{0, n - 1, 25}, {0, n - 1, 1}, {0, n - 1, n - 1}, {10, 30, 20}, {10, 30, 10}, {10, 30, 31}, {25, 25, 25}, {0, 24, 25}, {25, 49, 25}, {3, 46, 11},
		} {
			x := row(t, k, n)
			x.lift(c.a, c.b, 1000, true)
			x.before(c.cut, true)
			x.items()
			x.lift(0, c.cut-1, 7, true)
			x.join(c.cut, 0, true)
			x.items()
			x.lift(c.cut, c.cut-1, -3, true)
			x.before(0, true)
			x.items()
			x.join(0, c.cut, true)
			x.items()
			x.set(c.cut, 5, true)
			x.same()
		}
	})
}

// P6.1, P7.1: on a nil pool nothing is there, and nothing is done: every method.
func TestNil(t *testing.T) {
	each(t, func(t *testing.T, k kind) {
		p := k.none
		for _, v := range append(noItems(0), 0, 1, 7) {
			for _, w := range []int{0, 1, -1, end, math.MinInt, math.MaxInt} {
				if p.Add(v, w) || p.Set(v, w) || p.Lift(v, v, w) || p.Lift(v, 0, w) || p.Lift(0, v, w) {
					t.Errorf("%d, %d: something is done", v, w)
				}
				if p.At(v, w) != -1 {
					t.Errorf("At(%d, %d): got %d", v, w, p.At(v, w))
				}
			}
			if p.Has(v) || p.Drop(v) || p.Same(v, v) || p.Same(v, 0) || p.Before(v) || p.Join(v, 0) || p.Join(0, v) {
				t.Errorf("%d: it is there", v)
			}
			if p.Len(v) != 0 || p.Rank(v) != -1 || p.All(v) != (api.Sum{}) {
				t.Errorf("%d: length %d, rank %d, sum %+v", v, p.Len(v), p.Rank(v), p.All(v))
			}
			if w, ok := p.Get(v); w != 0 || ok {
				t.Errorf("Get(%d): got %d, %v", v, w, ok)
			}
			if s, ok := p.Range(v, v); s != (api.Sum{}) || ok {
				t.Errorf("Range(%d, %d): got %+v, %v", v, v, s, ok)
			}
		}
		if p.Check() {
			t.Error("Check: got true")
		}
	})
}

// Rule 4: what is done to one pool, another one doesn't know.
func TestApart(t *testing.T) {
	each(t, func(t *testing.T, k kind) {
		x, y := mixed(t, k), mixed(t, k)
		x.before(5, true)
		x.set(0, 99, true)
		x.join(8, 3, true)
		x.lift(8, 0, 77, true)
		x.add(6, 1, true)
		x.same()
		y.same()
	})
}

// P6.1, P7.1, P10: a pool with all its items in one sequence, each weight at its end, raised to the other end and back, cut and joined.
func TestFull(t *testing.T) {
	each(t, func(t *testing.T, k kind) {
		p := k.make(room)
		for v := range room {
			if !p.Add(v, -end) {
				t.Fatalf("Add(%d): no room", v)
			}
		}
		if p.Add(room, 0) || p.Add(0, 0) {
			t.Fatal("room for one more")
		}
		for half := 1; half < room; half *= 2 {
			for v := 0; v < room; v += 2 * half {
				if !p.Join(v+half/2, v+half) {
					t.Fatalf("Join(%d, %d): refused", v+half/2, v+half)
				}
			}
		}
		whole := func(w int) {
			t.Helper()
			want := api.Sum{Count: room, Sum: room * w, Min: w, Max: w}
			if s, ok := p.Range(p.At(7, 0), p.At(7, room-1)); !ok || s != want || p.All(room/3) != want || p.Len(0) != room {
				t.Fatalf("all: got %+v, %v, want %+v", s, ok, want)
			}
			if got, ok := p.Get(room - 2); !ok || got != w {
				t.Fatalf("Get: got %d, want %d", got, w)
			}
		}
		whole(-end)
		for range 3 {
			if p.Lift(0, room-1, -1) || !p.Lift(0, room-1, step) || p.Lift(0, room-1, 1) {
				t.Fatal("not raised from end to end")
			}
			whole(end)
			if s, ok := p.Range(1, room-2); !ok || s != (api.Sum{Count: room - 2, Sum: (room - 2) * end, Min: end, Max: end}) {
				t.Fatalf("all but two: got %+v, %v", s, ok)
			}
			if !p.Lift(0, room-1, -step) {
				t.Fatal("not raised back")
			}
			whole(-end)
		}
		if !p.Lift(0, room-1, step) || !p.Before(room/3) || !p.Join(room/3, 0) {
			t.Fatal("not turned round")
		}
		whole(end)
		if !p.Lift(room/3, room/3-1, -step) || p.Rank(0) != room-room/3 || p.At(0, 0) != room/3 || p.At(0, room-1) != room/3-1 {
			t.Fatalf("turned round: 0 is at place %d", p.Rank(0))
		}
		whole(-end)
		if !p.Check() {
			t.Error("Check: got false")
		}
	})
}

// change does one thing at random to both, and holds the answers against each other.
func change(t *testing.T, r *rand.Rand, x *both) {
	t.Helper()
	a, b := r.Intn(x.m.n+2)-1, r.Intn(x.m.n+2)-1
	weights := []int{r.Intn(100) - 50, end, -end, end - 1, end + 1, -end - 1, 0, 1, -1, step, -step, step + 1, math.MinInt, math.MaxInt}
	w := weights[r.Intn(len(weights))]
	if r.Intn(3) > 0 {
		w = weights[0]
	}
	var got, want bool
	kind := r.Intn(11)
	switch kind {
	case 0, 1:
		got, want = x.p.Add(a, w), x.m.add(a, w)
	case 2:
		got, want = x.p.Drop(a), x.m.drop(a)
	case 3, 4, 5:
		got, want = x.p.Join(a, b), x.m.join(a, b)
	case 6, 7:
		got, want = x.p.Before(a), x.m.before(a)
	case 8:
		got, want = x.p.Set(a, w), x.m.set(a, w)
	case 9, 10:
		got, want = x.p.Lift(a, b, w), x.m.lift(a, b, w)
	}
	if got != want {
		t.Fatalf("kind %d of %d, %d, %d: got %v, want %v", kind, a, b, w, got, want)
	}
}

// P6.1, P6.2, P7.1, P7.2: short runs in small pools, all that is told looked at behind each step.
func TestRuns(t *testing.T) {
	each(t, func(t *testing.T, k kind) {
		r := rand.New(rand.NewSource(61))
		for i := range 400 {
			x := newBoth(t, k, 1+i%10)
			for range 80 {
				change(t, r, x)
				x.same()
			}
		}
	})
}

// P6.1, P6.2, P7.1, P7.2: long runs in greater ones, looked at now and then.
func TestLongRuns(t *testing.T) {
	each(t, func(t *testing.T, k kind) {
		r := rand.New(rand.NewSource(66))
		for _, n := range []int{30, 100, 400} {
			x := row(t, k, n)
			for i := range 6000 {
				change(t, r, x)
				if i%200 == 0 {
					x.items()
				}
			}
			x.items()
		}
	})
}
