// Package num is layer 1: weights, and sums of them.
package num

import "arboretum/api"

// A weight goes from one of its ends to the other by at most this much.
const maxStep = 2 * api.MaxWeight

// Fits tells whether w may be a weight.
func Fits(w int) bool {
	return within(w, api.MaxWeight)
}

// Add answers w raised by by, and true, if w and what comes out are weights, and by is from -2^41 to 2^41; else 0 and false.
func Add(w, by int) (int, bool) {
	// Both are looked at before they are added, so that the addition can't wrap round.
	if !Fits(w) || !within(by, maxStep) || !Fits(w+by) {
		return 0, false
	}
	return w + by, true
}

// One answers the sum of one number, which need not be a weight.
func One(w int) api.Sum {
	return api.Sum{Count: 1, Sum: w, Min: w, Max: w}
}

// Join answers the sum of all that a and b are sums of.
func Join(a, b api.Sum) api.Sum {
	// A sum of nothing has no least and no greatest one, so its 0s must not be held against the other's.
	if a.Count == 0 {
		return b
	}
	if b.Count == 0 {
		return a
	}
	return api.Sum{
		Count: a.Count + b.Count,
		Sum:   a.Sum + b.Sum,
		Min:   min(a.Min, b.Min),
		Max:   max(a.Max, b.Max),
	}
}

// Lift answers the sum of what a is the sum of, each raised by by.
func Lift(a api.Sum, by int) api.Sum {
	// A sum of nothing has nothing to raise: its Min and Max stay as they are.
	if a.Count == 0 {
		return a
	}
	return api.Sum{
		Count: a.Count,
		Sum:   a.Sum + a.Count*by,
		Min:   a.Min + by,
		Max:   a.Max + by,
	}
}

// Of answers the sum of l.
func Of(l []int) api.Sum {
	var all api.Sum
	for _, w := range l {
		all = Join(all, One(w))
	}
	return all
}

// The absolute value is not asked for: the least int has none.
func within(n, end int) bool {
	return -end <= n && n <= end
}
