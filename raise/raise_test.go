package raise

import (
	"math"
	"testing"

	"arboretum/api"
)

const (
	end  = 1 << 40 // written out, not taken from api: a weight's end is part of the promise
	step = 1 << 41
)

// All or none can be raised: the least and the greatest one, to either end and one past it.
func TestCan(t *testing.T) {
	for _, c := range []struct {
		min, max, by int
		want         bool
	}{
		{0, 0, 0, true}, {-5, 7, 3, true}, {-5, 7, -3, true},
		{-5, end, 0, true}, {-5, end, 1, false}, {-5, end, -1, true}, {-5, end - 1, 1, true},
		{-end, 7, 0, true}, {-end, 7, -1, false}, {-end, 7, 1, true}, {-end + 1, 7, -1, true},
		{-end, end, 0, true}, {-end, end, 1, false}, {-end, end, -1, false},
		{-end, -end, step, true}, {-end, -end, step + 1, false}, {-end, -end + 1, step, false},
		{end, end, -step, true}, {end, end, -step - 1, false}, {end - 1, end, -step, false},
		{0, 0, math.MaxInt, false}, {0, 0, math.MinInt, false}, {end, end, math.MaxInt, false}, {-end, -end, math.MinInt, false},
	} {
		s := api.Sum{Count: 2, Sum: c.min + c.max, Min: c.min, Max: c.max}
		if got := Can(s, c.by); got != c.want {
			t.Errorf("Can(%+v, %d): got %v, want %v", s, c.by, got, c.want)
		}
	}
}

func TestWeight(t *testing.T) {
	for _, c := range []struct{ w, by, want int }{
		{5, 0, 5}, {5, -7, -2}, {-end, step, end}, {end, -step, -end}, {0, end, end}, {0, -end, -end},
	} {
		if got := Weight(c.w, c.by); got != c.want {
			t.Errorf("Weight(%d, %d): got %d, want %d", c.w, c.by, got, c.want)
		}
	}
}

// Odd and even steps, both ways; nothing is raised of nothing; and all items of a full pool from one end to the other.
func TestSum(t *testing.T) {
	const full = 1 << 22
	for _, c := range []struct {
		s    api.Sum
		by   int
		want api.Sum
	}{
		{api.Sum{}, 7, api.Sum{}},
		{api.Sum{Count: 3, Sum: 11, Min: -1, Max: 7}, 0, api.Sum{Count: 3, Sum: 11, Min: -1, Max: 7}},
		{api.Sum{Count: 3, Sum: 11, Min: -1, Max: 7}, 10, api.Sum{Count: 3, Sum: 41, Min: 9, Max: 17}},
		{api.Sum{Count: 3, Sum: 11, Min: -1, Max: 7}, 5, api.Sum{Count: 3, Sum: 26, Min: 4, Max: 12}},
		{api.Sum{Count: 3, Sum: 11, Min: -1, Max: 7}, -5, api.Sum{Count: 3, Sum: -4, Min: -6, Max: 2}},
		{api.Sum{Count: 3, Sum: 11, Min: -1, Max: 7}, 1, api.Sum{Count: 3, Sum: 14, Min: 0, Max: 8}},
		{api.Sum{Count: 3, Sum: 11, Min: -1, Max: 7}, -1, api.Sum{Count: 3, Sum: 8, Min: -2, Max: 6}},
		{api.Sum{Count: full, Sum: -full * end, Min: -end, Max: -end}, step, api.Sum{Count: full, Sum: full * end, Min: end, Max: end}},
		{api.Sum{Count: full, Sum: full * end, Min: end, Max: end}, -step, api.Sum{Count: full, Sum: -full * end, Min: -end, Max: -end}},
	} {
		if got := Sum(c.s, c.by); got != c.want {
			t.Errorf("Sum(%+v, %d): got %+v, want %+v", c.s, c.by, got, c.want)
		}
	}
}
