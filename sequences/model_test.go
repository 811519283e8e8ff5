package sequences

import (
	"math"
	"slices"
	"testing"

	"arboretum/api"
)

const (
	room = 1 << 22 // written out, not taken from api: how many items and which weights there may be is part of the promise
	end  = 1 << 40
	step = 1 << 41
)

// model is the sequences as lists, whole: all that is asked is looked for from their beginnings on.
type model struct {
	n      int
	lists  [][]int
	weight map[int]int
}

func newModel(n int) *model { return &model{n: n, weight: map[int]int{}} }

func isWeight(w int) bool { return w >= -end && w <= end }

// find is in which list v is, and where; -1 and -1, if it isn't there.
func (m *model) find(v int) (int, int) {
	for i, l := range m.lists {
		if k := slices.Index(l, v); k >= 0 {
			return i, k
		}
	}
	return -1, -1
}

func (m *model) has(v int) bool {
	i, _ := m.find(v)
	return i >= 0
}

func (m *model) list(v int) []int {
	if i, _ := m.find(v); i >= 0 {
		return m.lists[i]
	}
	return nil
}

func (m *model) rank(v int) int {
	_, k := m.find(v)
	return k
}

func (m *model) at(v, k int) int {
	if l := m.list(v); k >= 0 && k < len(l) {
		return l[k]
	}
	return -1
}

func (m *model) same(a, b int) bool {
	i, _ := m.find(a)
	j, _ := m.find(b)
	return i >= 0 && i == j
}

func (m *model) add(v, w int) bool {
	if v < 0 || v >= m.n || m.has(v) || !isWeight(w) {
		return false
	}
	m.lists = append(m.lists, []int{v})
	m.weight[v] = w
	return true
}

func (m *model) drop(v int) bool {
	i, _ := m.find(v)
	if i < 0 || len(m.lists[i]) != 1 {
		return false
	}
	m.lists = slices.Delete(m.lists, i, i+1)
	delete(m.weight, v)
	return true
}

func (m *model) before(v int) bool {
	i, k := m.find(v)
	if k <= 0 {
		return false
	}
	l := m.lists[i]
	m.lists[i] = slices.Clone(l[:k])
	m.lists = append(m.lists, slices.Clone(l[k:]))
	return true
}

func (m *model) join(a, b int) bool {
	i, _ := m.find(a)
	j, _ := m.find(b)
	if i < 0 || j < 0 || i == j {
		return false
	}
	m.lists[i] = slices.Concat(m.lists[i], m.lists[j])
	m.lists = slices.Delete(m.lists, j, j+1)
	return true
}

func (m *model) set(v, w int) bool {
	if !m.has(v) || !isWeight(w) {
		return false
	}
	m.weight[v] = w
	return true
}

// between is the items from a to b; nil, if there is no such range.
func (m *model) between(a, b int) []int {
	if !m.same(a, b) || m.rank(a) > m.rank(b) {
		return nil
	}
	return m.list(a)[m.rank(a) : m.rank(b)+1]
}

// sum reckons by itself, not by layer 1.
func (m *model) sum(items []int) api.Sum {
	if len(items) == 0 {
		return api.Sum{}
	}
	s := api.Sum{Count: len(items), Min: math.MaxInt, Max: math.MinInt}
	for _, v := range items {
		s.Sum += m.weight[v]
		s.Min = min(s.Min, m.weight[v])
		s.Max = max(s.Max, m.weight[v])
	}
	return s
}

func (m *model) lift(a, b, by int) bool {
	items := m.between(a, b)
	if items == nil || by < -step || by > step {
		return false
	}
	for _, v := range items {
		if !isWeight(m.weight[v] + by) {
			return false
		}
	}
	for _, v := range items {
		m.weight[v] += by
	}
	return true
}

// wantItem holds all that is told of v against the model.
func wantItem(t *testing.T, p pool, m *model, v int) {
	t.Helper()
	if got, want := p.Has(v), m.has(v); got != want {
		t.Fatalf("Has(%d): got %v, want %v", v, got, want)
	}
	if got, want := p.Len(v), len(m.list(v)); got != want {
		t.Fatalf("Len(%d): got %d, want %d", v, got, want)
	}
	if got, want := p.Rank(v), m.rank(v); got != want {
		t.Fatalf("Rank(%d): got %d, want %d", v, got, want)
	}
	for k := -1; k <= len(m.list(v)); k++ {
		wantAt(t, p, m, v, k)
	}
	for _, k := range []int{math.MinInt, math.MaxInt} {
		wantAt(t, p, m, v, k)
	}
	if w, ok := p.Get(v); w != m.weight[v] || ok != m.has(v) {
		t.Fatalf("Get(%d): got %d, %v, want %d, %v", v, w, ok, m.weight[v], m.has(v))
	}
	if got, want := p.All(v), m.sum(m.list(v)); got != want {
		t.Fatalf("All(%d): got %+v, want %+v", v, got, want)
	}
}

func wantAt(t *testing.T, p pool, m *model, v, k int) {
	t.Helper()
	if got, want := p.At(v, k), m.at(v, k); got != want {
		t.Fatalf("At(%d, %d): got %d, want %d", v, k, got, want)
	}
}

// wantPair holds all that is told of a and b against the model.
func wantPair(t *testing.T, p pool, m *model, a, b int) {
	t.Helper()
	if got, want := p.Same(a, b), m.same(a, b); got != want {
		t.Fatalf("Same(%d, %d): got %v, want %v", a, b, got, want)
	}
	items := m.between(a, b)
	if got, ok := p.Range(a, b); got != m.sum(items) || ok != (items != nil) {
		t.Fatalf("Range(%d, %d): got %+v, %v, want %+v", a, b, got, ok, m.sum(items))
	}
}

// both is a pool and its model, to which the same is done.
type both struct {
	t *testing.T
	p pool
	m *model
}

func newBoth(t *testing.T, k kind, n int) *both {
	t.Helper()
	p := k.make(n)
	if p == nil {
		t.Fatalf("New(%d): got nil", n)
	}
	return &both{t, p, newModel(n)}
}

// same holds all that the pool tells against the model, of items past its ends too.
func (x *both) same() {
	x.t.Helper()
	if !x.p.Check() {
		x.t.Fatalf("Check: got false of %+v", x.p)
	}
	for a := -1; a <= x.m.n; a++ {
		wantItem(x.t, x.p, x.m, a)
		for b := -1; b <= x.m.n; b++ {
			wantPair(x.t, x.p, x.m, a, b)
		}
	}
	for _, v := range []int{math.MinInt, math.MaxInt} {
		wantItem(x.t, x.p, x.m, v)
		wantPair(x.t, x.p, x.m, v, 0)
		wantPair(x.t, x.p, x.m, 0, v)
		wantPair(x.t, x.p, x.m, v, v)
	}
}

// items holds each item against the model, and of the pairs only some: for pools in which all pairs are too many.
func (x *both) items() {
	x.t.Helper()
	if !x.p.Check() {
		x.t.Fatal("Check: got false")
	}
	for _, l := range x.m.lists {
		for k, v := range l {
			if x.p.Rank(v) != k || x.p.At(l[0], k) != v || x.p.Len(v) != len(l) {
				x.t.Fatalf("%d: rank %d of %d, want %d of %d; there is %d", v, x.p.Rank(v), x.p.Len(v), k, len(l), x.p.At(l[0], k))
			}
			if w, ok := x.p.Get(v); !ok || w != x.m.weight[v] {
				x.t.Fatalf("Get(%d): got %d, %v, want %d", v, w, ok, x.m.weight[v])
			}
		}
		first, last, middle := l[0], l[len(l)-1], l[len(l)/2]
		wantPair(x.t, x.p, x.m, first, last)
		wantPair(x.t, x.p, x.m, first, middle)
		wantPair(x.t, x.p, x.m, middle, last)
		wantPair(x.t, x.p, x.m, x.m.lists[0][0], last)
	}
}

func (x *both) want(what string, got, model, want bool) {
	x.t.Helper()
	if model != want {
		x.t.Fatalf("%s: the model says %v, the test %v", what, model, want)
	}
	if got != want {
		x.t.Fatalf("%s: got %v, want %v", what, got, want)
	}
}

func (x *both) add(v, w int, want bool) {
	x.t.Helper()
	x.want("Add", x.p.Add(v, w), x.m.add(v, w), want)
}

func (x *both) drop(v int, want bool) {
	x.t.Helper()
	x.want("Drop", x.p.Drop(v), x.m.drop(v), want)
}

func (x *both) before(v int, want bool) {
	x.t.Helper()
	x.want("Before", x.p.Before(v), x.m.before(v), want)
}

func (x *both) join(a, b int, want bool) {
	x.t.Helper()
	x.want("Join", x.p.Join(a, b), x.m.join(a, b), want)
}

func (x *both) set(v, w int, want bool) {
	x.t.Helper()
	x.want("Set", x.p.Set(v, w), x.m.set(v, w), want)
}

func (x *both) lift(a, b, by int, want bool) {
	x.t.Helper()
	x.want("Lift", x.p.Lift(a, b, by), x.m.lift(a, b, by), want)
}

// row is one sequence of all n items, in their order, with room for none more.
func row(t *testing.T, k kind, n int) *both {
	t.Helper()
	x := newBoth(t, k, n)
	for v := range n {
		x.add(v, 10*v-33, true)
		if v > 0 {
			x.join(0, v, true)
		}
	}
	return x
}

// mixed has two sequences and a gap: 3, 0, 5, 1, 4; 7, 2; 8 by itself; 6 isn't there, and 9 is past the end.
func mixed(t *testing.T, k kind) *both {
	t.Helper()
	x := newBoth(t, k, 9)
	for _, v := range []int{0, 1, 2, 3, 4, 5, 7, 8} {
		x.add(v, 10*v-33, true)
	}
	for _, l := range [][]int{{3, 0, 5, 1, 4}, {7, 2}} {
		for _, v := range l[1:] {
			x.join(l[0], v, true)
		}
	}
	x.same()
	return x
}
