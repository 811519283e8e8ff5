package canon

import (
	"math"
	"math/rand"
	"slices"
	"testing"

	"arboretum/api"
)

// The ends of an id, of a weight and of how many nodes there are, as the document has them.
const (
	lastId   = 1<<31 - 1
	heaviest = 1 << 40
	most     = 1 << 20
)

// alone answers a root.
func alone(id int) api.Node { return api.Node{Id: id, Up: -1} }

// below answers a node below another one.
func below(id, up int) api.Node { return api.Node{Id: id, Up: up} }

// isForest is the chapter's own sentence about which nodes are a forest's, by a map and by as many steps up from each as there are nodes.
func isForest(l []api.Node) bool {
	if len(l) > most {
		return false
	}
	up := map[int]int{}
	for i, x := range l {
		switch {
		case x.Id < 0 || x.Id > lastId || x.Up < -1 || x.Up > lastId || x.Up == x.Id:
			return false
		case x.Weight < -heaviest || x.Weight > heaviest:
			return false
		case i > 0 && x.Id <= l[i-1].Id:
			return false
		}
		up[x.Id] = x.Up
	}
	for id := range up {
		at := id
		for range l {
			next, is := up[at]
			if !is {
				return false
			}
			at = next
			if at == -1 {
				break
			}
		}
		if at != -1 {
			return false
		}
	}
	return true
}

// wantCheck: both Check and Print tell whether l are a forest's, and neither changes them.
func wantCheck(t *testing.T, l []api.Node, want bool) {
	t.Helper()
	was := slices.Clone(l)
	if got := Check(l); got != want {
		t.Errorf("Check of %s: got %t, want %t", some(l), got, want)
	}
	s, ok := Print(l)
	if ok != want || !ok && s != "" {
		t.Errorf("Print of %s: got %d bytes, %t, want %t", some(l), len(s), ok, want)
	}
	if !slices.Equal(l, was) {
		t.Errorf("Check or Print changed %s to %s", some(was), some(l))
	}
}

// P13.1: nodes of forests.
func TestCheckForests(t *testing.T) {
	for _, l := range [][]api.Node{
		nil,
		{},
		{alone(0)},
		{alone(lastId)},
		{{Id: 3, Up: -1, Weight: heaviest}},
		{{Id: 3, Up: -1, Weight: -heaviest}},
		{alone(1), alone(2)},
		{below(1, 2), alone(2)},
		{alone(1), below(2, 1)},
		{alone(0), below(lastId, 0)},
		{below(0, lastId), alone(lastId)},
		{below(1, 2), below(2, 3), alone(3)},
		{alone(1), below(2, 1), below(3, 2)},
		{below(1, 3), alone(2), below(3, 2)},
		{below(1, 2), alone(2), below(3, 2)},
		{below(10, 30), below(20, 30), alone(30), alone(40), below(50, 40), below(60, 10)},
	} {
		wantCheck(t, l, true)
	}
}

// P13.1: a node that has no record, by itself and among others.
func TestCheckNoRecord(t *testing.T) {
	for _, x := range []api.Node{
		alone(-1), alone(-2), alone(math.MinInt), alone(lastId + 1), alone(1 << 32), alone(1<<32 + 5), alone(math.MaxInt),
		below(5, -2), below(5, math.MinInt), below(5, lastId+1), below(5, 1<<32-1), below(5, math.MaxInt), below(5, 5), below(0, 0), below(lastId, lastId), below(-1, -1), below(-2, -2),
		{Id: 5, Up: -1, Weight: heaviest + 1}, {Id: 5, Up: -1, Weight: -heaviest - 1}, {Id: 5, Up: -1, Weight: math.MaxInt}, {Id: 5, Up: -1, Weight: math.MinInt},
	} {
		wantCheck(t, []api.Node{x}, false)
		for _, l := range [][]api.Node{{alone(3), x}, {x, alone(7)}, {alone(3), x, alone(7)}, {below(3, x.Id), x}, {x, x}} {
			wantCheck(t, l, false)
		}
	}
	// Parents that are there, had they records.
	wantCheck(t, []api.Node{below(5, lastId+1), alone(lastId + 1)}, false)
	wantCheck(t, []api.Node{alone(-2), below(5, -2)}, false)
	wantCheck(t, []api.Node{alone(-1), below(5, -1)}, false)
}

// P13.1: Ids that don't rise, at each place, though each Up is there.
func TestCheckRise(t *testing.T) {
	for _, l := range [][]api.Node{
		{alone(2), alone(1)},
		{alone(1), alone(1)},
		{alone(0), alone(0)},
		{alone(lastId), alone(0)},
		{alone(lastId), alone(lastId)},
		{alone(2), below(1, 2)},
		{below(2, 1), alone(1)},
		{alone(1), below(1, 2), alone(2)},
		{alone(1), alone(1), alone(2)},
		{alone(1), alone(2), alone(2)},
		{alone(1), alone(3), alone(2)},
		{alone(2), alone(1), alone(3)},
		{alone(1), alone(2), alone(1)},
		{alone(3), alone(2), alone(1)},
	} {
		wantCheck(t, l, false)
	}
	for n := 2; n < 20; n++ {
		for at := 1; at < n; at++ {
			l := make([]api.Node, n)
			for i := range l {
				l[i] = alone(10 + 2*i)
			}
			wantCheck(t, l, true)
			l[at].Id--
			wantCheck(t, l, true)
			l[at].Id--
			wantCheck(t, l, false)
			l[at].Id += 2
			l[at-1], l[at] = l[at], l[at-1]
			wantCheck(t, l, false)
		}
	}
}

// P13.1: an Up that is none of them, wherever it would stand.
func TestCheckUpThere(t *testing.T) {
	for n := 1; n < 12; n++ {
		for at := range n {
			for up := -1; up <= 2*n+2; up++ {
				l := make([]api.Node, n)
				for i := range l {
					l[i] = alone(1 + 2*i)
				}
				l[at].Up = up
				there := up == -1 || up%2 == 1 && up < 2*n && up != l[at].Id
				wantCheck(t, l, there)
			}
			l := make([]api.Node, n)
			for i := range l {
				l[i] = alone(1 + 2*i)
			}
			l[at].Up = lastId
			wantCheck(t, l, false)
		}
	}
}

// P13.1: ways that go round, of all lengths, with nodes above nothing, and others that lead into them.
func TestCheckRound(t *testing.T) {
	for n := 2; n < 30; n++ {
		for step := 1; step < n; step++ {
			l := make([]api.Node, n)
			for i := range l {
				l[i] = below(i, (i+step)%n)
			}
			wantCheck(t, l, false)
		}
		for first := range n {
			for last := first + 1; last < n; last++ {
				l := make([]api.Node, n)
				for i := range l {
					l[i] = below(i, i+1)
				}
				l[n-1].Up = -1
				wantCheck(t, l, true)
				l[last].Up = first
				wantCheck(t, l, false)
				slices.Reverse(l)
				for i := range l {
					l[i] = below(i, turned(l[i].Up, n))
				}
				wantCheck(t, l, false)
			}
		}
	}
}

// turned answers the id at the other end of n of them.
func turned(id, n int) int {
	if id == -1 {
		return -1
	}
	return n - 1 - id
}

// P13.1: each list of up to three nodes of few ids, and of four that rise.
func TestCheckAllShort(t *testing.T) {
	var few []api.Node
	for id := -1; id <= 3; id++ {
		for up := -2; up <= 3; up++ {
			few = append(few, below(id, up))
		}
	}
	for _, a := range few {
		wantCheck(t, []api.Node{a}, isForest([]api.Node{a}))
		for _, b := range few {
			wantCheck(t, []api.Node{a, b}, isForest([]api.Node{a, b}))
			for _, c := range few {
				l := []api.Node{a, b, c}
				wantCheck(t, l, isForest(l))
			}
		}
	}
	forests := 0
	for n := range 6 * 6 * 6 * 6 {
		l := []api.Node{below(0, n%6-1), below(1, n/6%6-1), below(2, n/36%6-1), below(3, n/216-1)}
		wantCheck(t, l, isForest(l))
		if isForest(l) {
			forests++
		}
	}
	// As many as there are rooted forests of four nodes with names: 5^3.
	if forests != 125 {
		t.Errorf("%d forests of four nodes, want 125", forests)
	}
}

// P13.1: longer lists, forests in which nothing or one thing is made otherwise.
func TestCheckAny(t *testing.T) {
	r := rand.New(rand.NewSource(1))
	good := 0
	for range 20000 {
		l := someForest(r, 1+r.Intn(40))
		spoil(r, l)
		want := isForest(l)
		wantCheck(t, l, want)
		if want {
			good++
		}
	}
	if good < 4000 || good > 16000 {
		t.Errorf("%d of 20000 were forests", good)
	}
}

// someForest answers the nodes of a forest, of ids that lie near one another or anywhere.
func someForest(r *rand.Rand, n int) []api.Node {
	l := make([]api.Node, n)
	ids := someIds(r, n)
	// Each node is below one that came before it in an order that isn't that of the ids.
	order := r.Perm(n)
	roots := 1 + r.Intn(n)
	for i, at := range order {
		l[at] = api.Node{Id: ids[at], Up: -1, Weight: someWeight(r)}
		if i > 0 && r.Intn(n) >= roots/2 {
			l[at].Up = ids[order[r.Intn(i)]]
		}
	}
	return l
}

// someIds answers n ids that rise.
func someIds(r *rand.Rand, n int) []int {
	wide := lastId
	if r.Intn(2) == 0 {
		wide = 2 * n
	}
	seen := map[int]bool{}
	var ids []int
	for len(ids) < n {
		id := r.Intn(wide + 1)
		if !seen[id] {
			seen[id] = true
			ids = append(ids, id)
		}
	}
	slices.Sort(ids)
	return ids
}

// someWeight answers a weight, the ends among them.
func someWeight(r *rand.Rand) int {
	switch r.Intn(8) {
	case 0:
		return heaviest
	case 1:
		return -heaviest
	}
	return (r.Intn(2*heaviest+1) - heaviest) >> r.Intn(41)
}

// spoil makes one thing of l otherwise, or nothing.
func spoil(r *rand.Rand, l []api.Node) {
	at, other := r.Intn(len(l)), r.Intn(len(l))
	switch r.Intn(8) {
	case 0:
		l[at].Up = l[other].Id
	case 1:
		l[at].Up = r.Intn(lastId)
	case 2:
		l[at].Id = l[other].Id
	case 3:
		l[at], l[other] = l[other], l[at]
	case 4:
		l[at].Weight += r.Intn(2*heaviest+1) - heaviest
	case 5:
		l[at].Id += r.Intn(3) - 1
	}
}

// P13.1: as many nodes as may be, and one more.
func TestCheckMost(t *testing.T) {
	l := make([]api.Node, most+1)
	for i := range l {
		l[i] = below(2*i, 2*i-2)
	}
	l[0].Up = -1
	wantCheck(t, l, false)
	wantCheck(t, l[:most], true)
	wantCheck(t, l[:most-1], true)
	wantCheck(t, make([]api.Node, 4*most), false)
	for i := range l {
		l[i] = alone(i)
	}
	wantCheck(t, l, false)
	wantCheck(t, l[1:], true)
}

// P13.1: of as many nodes as may be, all on one way, upwards and downwards, and round.
func TestCheckLongWays(t *testing.T) {
	l := make([]api.Node, most)
	for i := range l {
		l[i] = below(lastId-most+1+i, lastId-most+2+i)
	}
	l[most-1].Up = -1
	wantCheck(t, l, true)
	l[most-1].Up = l[0].Id
	wantCheck(t, l, false)
	l[most-1].Up = l[most-3].Id
	wantCheck(t, l, false)
	for i := range l {
		l[i] = below(i, i-1)
	}
	wantCheck(t, l, true)
	l[0].Up = most - 1
	wantCheck(t, l, false)
	l[0].Up = most
	wantCheck(t, l, false)
	for i := range l {
		l[i] = below(i, most-1)
	}
	l[most-1].Up = -1
	wantCheck(t, l, true)
	l[most-1].Up = most / 2
	wantCheck(t, l, false)
}

// P13.1: of raw nodes that may be anything, the answer is told, and nothing else happens.
func TestCheckRaw(t *testing.T) {
	ends := []int{math.MinInt, math.MinInt + 1, -2, -1, 0, 1, lastId, lastId + 1, math.MaxInt}
	r := rand.New(rand.NewSource(2))
	for range 20000 {
		l := make([]api.Node, r.Intn(6))
		for i := range l {
			l[i] = api.Node{Id: ends[r.Intn(len(ends))], Up: ends[r.Intn(len(ends))], Weight: ends[r.Intn(len(ends))]}
		}
		wantCheck(t, l, isForest(l))
	}
}
