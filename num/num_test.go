package num

import (
	"math"
	"slices"
	"testing"

	"arboretum/api"
)

const (
	end  = 1 << 40 // written out, not taken from api: a weight's end is part of the promise
	step = 1 << 41
)

// edges are the numbers about which weights and steps begin and end, the ends of int, and some ordinary ones.
func edges() []int {
	l := []int{0, 1, -1, 5, -2, 1000003, -1000003, math.MinInt, math.MinInt + 1, math.MaxInt, math.MaxInt - 1}
	for _, n := range []int{end, step, step + end, 1 << 42, 1 << 62} {
		l = append(l, n-1, n, n+1, -n-1, -n, -n+1)
	}
	// Numbers that come to a weight only if the addition wraps round.
	return append(l, math.MinInt+end, math.MaxInt-end, math.MinInt+step, math.MaxInt-step)
}

func wantSum(t *testing.T, what string, got, want api.Sum) {
	t.Helper()
	if got != want {
		t.Errorf("%s: got %+v, want %+v", what, got, want)
	}
}

// P1.1: Fits.
func TestFits(t *testing.T) {
	tests := []struct {
		w    int
		want bool
	}{
		{0, true}, {1, true}, {-1, true}, {123456789, true}, {-123456789, true},
		{end - 1, true}, {end, true}, {end + 1, false},
		{-end + 1, true}, {-end, true}, {-end - 1, false},
		{step, false}, {-step, false}, {1 << 62, false}, {-1 << 62, false},
		{math.MaxInt, false}, {math.MaxInt - 1, false},
		{math.MinInt, false}, {math.MinInt + 1, false},
	}
	for _, c := range tests {
		if got := Fits(c.w); got != c.want {
			t.Errorf("Fits(%d): got %v, want %v", c.w, got, c.want)
		}
	}
}

// P1.1: Add, at each end of each of the three conditions.
func TestAdd(t *testing.T) {
	tests := []struct {
		w, by, want int
		ok          bool
	}{
		{0, 0, 0, true}, {5, -2, 3, true}, {-5, 2, -3, true}, {7, 0, 7, true}, {3, -3, 0, true},
		{0, end, end, true}, {0, end + 1, 0, false}, {0, -end, -end, true}, {0, -end - 1, 0, false},
		{end, 0, end, true}, {end, -1, end - 1, true}, {end, 1, 0, false}, {end - 1, 1, end, true},
		{-end, 0, -end, true}, {-end, 1, -end + 1, true}, {-end, -1, 0, false}, {-end + 1, -1, -end, true},
		{-end, step, end, true}, {end, -step, -end, true},
		{-end, step - 1, end - 1, true}, {end, -step + 1, -end + 1, true},
		{-end, step + 1, 0, false}, {end, -step - 1, 0, false},
		{-end + 1, step, 0, false}, {end - 1, -step, 0, false},
		{0, step, 0, false}, {0, -step, 0, false}, {end, end, 0, false}, {-end, -end, 0, false},
		// w is no weight, though what comes out is one.
		{end + 1, -1, 0, false}, {-end - 1, 1, 0, false}, {end + 1, -end, 0, false},
		{end + 1, -step, 0, false}, {-end - 1, step, 0, false},
		// by is past its ends, and so is w, though what comes out is a weight.
		{end + 1, -step - 1, 0, false}, {-end - 1, step + 1, 0, false},
		{math.MaxInt, -math.MaxInt, 0, false}, {math.MinInt + 1, math.MaxInt, 0, false},
		// What comes out would be a weight only if the addition wraps round.
		{math.MinInt, math.MinInt, 0, false}, {math.MaxInt, math.MinInt, 0, false},
		{0, math.MaxInt, 0, false}, {0, math.MinInt, 0, false},
		{end, math.MaxInt, 0, false}, {-end, math.MinInt, 0, false},
		{math.MaxInt, 1, 0, false}, {math.MinInt, -1, 0, false},
		{math.MaxInt, 0, 0, false}, {math.MinInt, 0, 0, false}, {0, 1 << 62, 0, false},
	}
	for _, c := range tests {
		got, ok := Add(c.w, c.by)
		if got != c.want || ok != c.ok {
			t.Errorf("Add(%d, %d): got %d, %v, want %d, %v", c.w, c.by, got, ok, c.want, c.ok)
		}
	}
}

// P1.1: Add, at all pairs of edges, held against a reckoning that has room enough.
func TestAddAllEdges(t *testing.T) {
	isWeight := func(n int) bool { return n >= -end && n <= end }
	for _, w := range edges() {
		for _, by := range edges() {
			good := isWeight(w) && by >= -step && by <= step && isWeight(w+by)
			want := 0
			if good {
				want = w + by
			}
			if got, ok := Add(w, by); got != want || ok != good {
				t.Errorf("Add(%d, %d): got %d, %v, want %d, %v", w, by, got, ok, want, good)
			}
		}
	}
}

// P1.1: One takes any number, weights or not.
func TestOne(t *testing.T) {
	for _, w := range edges() {
		wantSum(t, "One", One(w), api.Sum{Count: 1, Sum: w, Min: w, Max: w})
	}
}

// P1.2: Join.
func TestJoin(t *testing.T) {
	var none api.Sum
	a := api.Sum{Count: 2, Sum: 3, Min: -2, Max: 5}
	b := api.Sum{Count: 3, Sum: 30, Min: 9, Max: 11}
	// Sums of Count 0 whose other numbers are not 0 are handed on, or left out, as they are.
	odd := api.Sum{Count: 0, Sum: 7, Min: -100, Max: 100}
	other := api.Sum{Count: 0, Sum: -8, Min: 1, Max: 2}
	tests := []struct {
		what       string
		a, b, want api.Sum
	}{
		{"two", One(5), One(-2), a},
		{"apart", a, b, api.Sum{Count: 5, Sum: 33, Min: -2, Max: 11}},
		{"apart, the other way", b, a, api.Sum{Count: 5, Sum: 33, Min: -2, Max: 11}},
		{"one within the other", api.Sum{Count: 2, Sum: 0, Min: -9, Max: 9}, One(1), api.Sum{Count: 3, Sum: 1, Min: -9, Max: 9}},
		{"with itself", a, a, api.Sum{Count: 4, Sum: 6, Min: -2, Max: 5}},
		{"all above 0", One(5), One(6), api.Sum{Count: 2, Sum: 11, Min: 5, Max: 6}},
		{"all below 0", One(-5), One(-6), api.Sum{Count: 2, Sum: -11, Min: -6, Max: -5}},
		{"none and none", none, none, none},
		{"none first", none, b, b},
		{"none behind", b, none, b},
		{"none and one below 0", none, One(-5), One(-5)},
		{"odd first", odd, b, b},
		{"odd behind", b, odd, b},
		{"none and odd", none, odd, odd},
		{"odd and none", odd, none, none},
		{"odd and other", odd, other, other},
		{"ends of a weight", One(end), One(-end), api.Sum{Count: 2, Sum: 0, Min: -end, Max: end}},
		{"ends of int", One(math.MaxInt), One(math.MinInt), api.Sum{Count: 2, Sum: -1, Min: math.MinInt, Max: math.MaxInt}},
		{"none and an end of int", none, One(math.MinInt), One(math.MinInt)},
		{"a Count below 0", api.Sum{Count: -1, Sum: 1, Min: 2, Max: 3}, One(5), api.Sum{Count: 0, Sum: 6, Min: 2, Max: 5}},
	}
	for _, c := range tests {
		wantSum(t, "Join, "+c.what, Join(c.a, c.b), c.want)
	}
}

// P1.2: Lift.
func TestLift(t *testing.T) {
	a := api.Sum{Count: 2, Sum: 3, Min: -2, Max: 5}
	odd := api.Sum{Count: 0, Sum: 7, Min: -100, Max: 100}
	full := api.Sum{Count: api.MaxNodes, Sum: -api.MaxNodes * end, Min: -end, Max: -end}
	tests := []struct {
		what string
		a    api.Sum
		by   int
		want api.Sum
	}{
		{"up", a, 10, api.Sum{Count: 2, Sum: 23, Min: 8, Max: 15}},
		{"down", a, -10, api.Sum{Count: 2, Sum: -17, Min: -12, Max: -5}},
		{"by 0", a, 0, a},
		{"one", One(4), 3, One(7)},
		{"none", api.Sum{}, 5, api.Sum{}},
		{"none, by the ends of int", api.Sum{}, math.MinInt, api.Sum{}},
		{"none, odd", odd, 5, odd},
		{"none, odd, by the ends of int", odd, math.MaxInt, odd},
		{"from end to end", full, step, api.Sum{Count: api.MaxNodes, Sum: api.MaxNodes * end, Min: end, Max: end}},
		{"one to an end of int", One(0), math.MaxInt, One(math.MaxInt)},
		{"one to the other end of int", One(0), math.MinInt, One(math.MinInt)},
		{"one from an end of int", One(math.MinInt), math.MaxInt, One(-1)},
		{"a Count below 0", api.Sum{Count: -1, Sum: 1, Min: 2, Max: 3}, 5, api.Sum{Count: -1, Sum: -4, Min: 7, Max: 8}},
	}
	for _, c := range tests {
		wantSum(t, "Lift, "+c.what, Lift(c.a, c.by), c.want)
	}
}

// P1.2: Of.
func TestOf(t *testing.T) {
	tests := []struct {
		what string
		l    []int
		want api.Sum
	}{
		{"nil", nil, api.Sum{}},
		{"empty", []int{}, api.Sum{}},
		{"one", []int{7}, One(7)},
		{"one 0", []int{0}, api.Sum{Count: 1}},
		{"two", []int{5, -2}, api.Sum{Count: 2, Sum: 3, Min: -2, Max: 5}},
		{"all above 0", []int{4, 9, 5}, api.Sum{Count: 3, Sum: 18, Min: 4, Max: 9}},
		{"all below 0", []int{-4, -9, -5}, api.Sum{Count: 3, Sum: -18, Min: -9, Max: -4}},
		{"twice the same", []int{3, 3, 3}, api.Sum{Count: 3, Sum: 9, Min: 3, Max: 3}},
		{"ends of a weight", []int{end, -end, end}, api.Sum{Count: 3, Sum: end, Min: -end, Max: end}},
		{"past them", []int{end + 1, -end - 1}, api.Sum{Count: 2, Sum: 0, Min: -end - 1, Max: end + 1}},
		{"ends of int", []int{math.MinInt, math.MaxInt}, api.Sum{Count: 2, Sum: -1, Min: math.MinInt, Max: math.MaxInt}},
		{"one at an end of int", []int{math.MinInt}, One(math.MinInt)},
	}
	for _, c := range tests {
		wantSum(t, "Of, "+c.what, Of(c.l), c.want)
	}
}

// P1.2: Of is Join of One of each, as far as a forest goes.
func TestOfMany(t *testing.T) {
	l := slices.Repeat([]int{end}, api.MaxNodes)
	wantSum(t, "all at the upper end", Of(l), api.Sum{Count: api.MaxNodes, Sum: api.MaxNodes * end, Min: end, Max: end})
	l = slices.Repeat([]int{-end}, api.MaxNodes)
	wantSum(t, "all at the lower end", Of(l), api.Sum{Count: api.MaxNodes, Sum: -api.MaxNodes * end, Min: -end, Max: -end})
}

// Rule 3: what is handed in is not changed, its spare room neither.
func TestOfLeavesItsListAlone(t *testing.T) {
	all := []int{3, -1, 2, 77, 78}
	Of(all[:3])
	if !slices.Equal(all, []int{3, -1, 2, 77, 78}) {
		t.Errorf("Of changed its list: %v", all)
	}
}

// orders hands each order of l to see.
func orders(l []int, see func([]int)) {
	var place func(k int)
	place = func(k int) {
		if k == len(l) {
			see(l)
			return
		}
		for i := k; i < len(l); i++ {
			l[k], l[i] = l[i], l[k]
			place(k + 1)
			l[k], l[i] = l[i], l[k]
		}
	}
	place(0)
}

// P1.3: the sum of a list is the same in each of its orders, and wherever it is parted.
func TestOrderOfList(t *testing.T) {
	lists := [][]int{
		{}, {5}, {5, -2}, {0, 0, 1}, {3, 1, 4, 1, 5, 9}, {-3, -1, -4, -1, -5},
		{end, -end, 0, end - 1, 1 - end, 7},
	}
	for _, l := range lists {
		want := Of(l)
		orders(slices.Clone(l), func(m []int) {
			wantSum(t, "another order", Of(m), want)
			for k := range len(m) + 1 {
				wantSum(t, "parted", Join(Of(m[:k]), Of(m[k:])), want)
			}
		})
	}
}

// P1.3: sums are joined in any order and in any pairs, and lifted before or behind.
func TestOrderOfSums(t *testing.T) {
	sums := []api.Sum{{}, One(0), One(5), One(-2), One(end), One(-end), Of([]int{5, -2}), Of([]int{-7, -8, -9}), Of([]int{end, end, -end})}
	for _, a := range sums {
		for _, b := range sums {
			wantSum(t, "Join turned round", Join(b, a), Join(a, b))
			for _, by := range []int{0, 1, -1, end, -end, step, -step} {
				wantSum(t, "Lift of Join", Lift(Join(a, b), by), Join(Lift(a, by), Lift(b, by)))
			}
			for _, c := range sums {
				wantSum(t, "Join in other pairs", Join(Join(a, b), c), Join(a, Join(b, c)))
			}
		}
		for _, by := range []int{0, 3, -end, step} {
			wantSum(t, "Lift twice", Lift(Lift(a, by), -4), Lift(a, by-4))
		}
	}
}
