package tour

import "sort"

// encloses tells whether v is on the way up of the node at this place of its tour.
func (f *Forest) encloses(v, place int) bool {
	return f.isRoot(v) || f.tours.Rank(f.nodes[v].down) < place && place < f.tours.Rank(f.nodes[v].up)
}

// climb answers the nodes from a up to the lowest one that is on b's way up too; a and b are in one tree.
// A step up to a parent is far less work than a look at where arcs are: so it looks only when it has come twice as far, and then for the one between.
func (f *Forest) climb(a, b int) []int {
	place := f.tours.Rank(item(b))
	way := []int{a}
	for !f.encloses(way[len(way)-1], place) {
		way = f.further(way)
	}
	steps := sort.Search(len(way), func(i int) bool {
		return f.encloses(way[i], place)
	})
	return way[:steps+1]
}

// further answers twice as much of this way up, or, if that is less, all of it.
func (f *Forest) further(way []int) []int {
	v := way[len(way)-1]
	for range len(way) {
		if f.isRoot(v) {
			break
		}
		v = f.nodes[v].parent
		way = append(way, v)
	}
	return way
}

// way answers the nodes on the way between a and b, in an order of its own; none, if there is no way.
func (f *Forest) way(a, b int) []int {
	if !f.Same(a, b) {
		return nil
	}
	way := f.climb(a, b)
	top := way[len(way)-1]
	for v := b; v != top; v = f.nodes[v].parent {
		way = append(way, v)
	}
	return way
}
