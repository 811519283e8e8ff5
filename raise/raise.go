// Package raise helps the layers in which a raise waits for the weights below it: it asks once whether all of them can be raised, and raises them later.
package raise

import (
	"arboretum/api"
	"arboretum/num"
)

// Can tells whether all weights of which s is the sum can be raised by by: if the least and the greatest one can, so can those between.
func Can(s api.Sum, by int) bool {
	_, least := num.Add(s.Min, by)
	_, greatest := num.Add(s.Max, by)
	return least && greatest
}

// Weight answers w raised by by, for what is known to stay a weight: what waits was asked of every weight that it is for.
func Weight(w, by int) int {
	raised, _ := num.Add(w, by)
	return raised
}

// Sum answers the sum s of weights, each raised by by. It is done by halves, since all items of a full pool, raised from one end of a weight to the
// other at once, would come to a step past an int's end.
func Sum(s api.Sum, by int) api.Sum {
	half := by / 2
	return num.Lift(num.Lift(s, half), by-half)
}
