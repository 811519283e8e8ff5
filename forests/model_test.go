package forests

import (
	"math"
	"slices"
	"testing"

	"arboretum/api"
)

const (
	most = 1 << 20 // written out, not taken from api: how many nodes and which weights there may be is part of the promise
	end  = 1 << 40
	step = 1 << 41
)

// model is a forest without parents: who lies beside whom, and which nodes are roots. To make a node the root moves a mark alone,
// so that what P5.2 says of ways holds here by itself.
type model struct {
	there  []bool
	root   []bool
	weight []int
	beside [][]bool
}

func newModel(n int) *model {
	m := &model{there: make([]bool, n), root: make([]bool, n), weight: make([]int, n), beside: make([][]bool, n)}
	for v := range n {
		m.beside[v] = make([]bool, n)
	}
	return m
}

func (m *model) has(v int) bool { return v >= 0 && v < len(m.there) && m.there[v] }

func isWeight(w int) bool { return w >= -end && w <= end }

// way is the nodes from a to b, in their order; nil, if there is no way.
func (m *model) way(a, b int) []int {
	if !m.has(a) || !m.has(b) {
		return nil
	}
	return m.search(a, b, -1)
}

func (m *model) search(a, b, from int) []int {
	if a == b {
		return []int{a}
	}
	for next, is := range m.beside[a] {
		if is && next != from {
			if rest := m.search(next, b, a); rest != nil {
				return append([]int{a}, rest...)
			}
		}
	}
	return nil
}

// up is the way from v to the root of its tree.
func (m *model) up(v int) []int {
	for r, is := range m.root {
		if is {
			if way := m.way(v, r); way != nil {
				return way
			}
		}
	}
	return nil
}

func (m *model) rootOf(v int) int {
	if up := m.up(v); up != nil {
		return up[len(up)-1]
	}
	return -1
}

func (m *model) parent(v int) int {
	if up := m.up(v); len(up) > 1 {
		return up[1]
	}
	return -1
}

// lowest is the first node without kids that is found below v.
func (m *model) lowest(v int) int {
	for u := range m.there {
		if m.parent(u) == v {
			return m.lowest(u)
		}
	}
	return v
}

func (m *model) add(v, w int) bool {
	if v < 0 || v >= len(m.there) || m.there[v] || !isWeight(w) {
		return false
	}
	m.there[v], m.root[v], m.weight[v] = true, true, w
	return true
}

func (m *model) drop(v int) bool {
	if !m.has(v) || !m.root[v] || slices.Contains(m.beside[v], true) {
		return false
	}
	m.there[v], m.root[v], m.weight[v] = false, false, 0
	return true
}

func (m *model) link(c, p int) bool {
	if !m.has(c) || !m.has(p) || !m.root[c] || m.way(c, p) != nil {
		return false
	}
	m.root[c] = false
	m.beside[c][p], m.beside[p][c] = true, true
	return true
}

func (m *model) cut(c int) bool {
	p := m.parent(c)
	if p == -1 {
		return false
	}
	m.beside[c][p], m.beside[p][c] = false, false
	m.root[c] = true
	return true
}

func (m *model) evert(v int) bool {
	if !m.has(v) {
		return false
	}
	m.root[m.rootOf(v)] = false
	m.root[v] = true
	return true
}

// lca is the first node on a's way up that is on b's too.
func (m *model) lca(a, b int) int {
	other := m.up(b)
	for _, v := range m.up(a) {
		if slices.Contains(other, v) {
			return v
		}
	}
	return -1
}

func (m *model) set(v, w int) bool {
	if !m.has(v) || !isWeight(w) {
		return false
	}
	m.weight[v] = w
	return true
}

// sumOf reckons by itself, not by layer 1.
func sumOf(l []int) api.Sum {
	if len(l) == 0 {
		return api.Sum{}
	}
	s := api.Sum{Count: len(l), Min: slices.Min(l), Max: slices.Max(l)}
	for _, w := range l {
		s.Sum += w
	}
	return s
}

func (m *model) path(a, b int) (api.Sum, bool) {
	var l []int
	for _, v := range m.way(a, b) {
		l = append(l, m.weight[v])
	}
	return sumOf(l), len(l) > 0
}

func (m *model) pathAdd(a, b, by int) bool {
	way := m.way(a, b)
	if way == nil || by < -step || by > step {
		return false
	}
	for _, v := range way {
		if !isWeight(m.weight[v] + by) {
			return false
		}
	}
	for _, v := range way {
		m.weight[v] += by
	}
	return true
}

func (m *model) sub(v int) (int, int, bool) {
	count, all := 0, 0
	for u := range m.there {
		if slices.Contains(m.up(u), v) {
			count++
			all += m.weight[u]
		}
	}
	return count, all, count > 0
}

func (m *model) size(v int) int {
	count := 0
	for u := range m.there {
		if m.way(u, v) != nil {
			count++
		}
	}
	return count
}

// wantNode holds all that is told of v against the model.
func wantNode(t *testing.T, f forest, m *model, v int) {
	t.Helper()
	if got, want := f.Has(v), m.has(v); got != want {
		t.Fatalf("Has(%d): got %v, want %v", v, got, want)
	}
	if got, want := f.Root(v), m.rootOf(v); got != want {
		t.Fatalf("Root(%d): got %d, want %d", v, got, want)
	}
	if got, want := f.Parent(v), m.parent(v); got != want {
		t.Fatalf("Parent(%d): got %d, want %d", v, got, want)
	}
	weight := 0
	if m.has(v) {
		weight = m.weight[v]
	}
	if got, ok := f.Get(v); got != weight || ok != m.has(v) {
		t.Fatalf("Get(%d): got %d, %v, want %d, %v", v, got, ok, weight, m.has(v))
	}
	count, all, ok := m.sub(v)
	if c, a, is := f.Sub(v); c != count || a != all || is != ok {
		t.Fatalf("Sub(%d): got %d, %d, %v, want %d, %d, %v", v, c, a, is, count, all, ok)
	}
	if got, want := f.Size(v), m.size(v); got != want {
		t.Fatalf("Size(%d): got %d, want %d", v, got, want)
	}
}

// wantPair holds all that is told of a and b against the model.
func wantPair(t *testing.T, f forest, m *model, a, b int) {
	t.Helper()
	if got, want := f.Same(a, b), m.way(a, b) != nil; got != want {
		t.Fatalf("Same(%d, %d): got %v, want %v", a, b, got, want)
	}
	if got, want := f.Lca(a, b), m.lca(a, b); got != want {
		t.Fatalf("Lca(%d, %d): got %d, want %d", a, b, got, want)
	}
	want, ok := m.path(a, b)
	if got, is := f.Path(a, b); got != want || is != ok {
		t.Fatalf("Path(%d, %d): got %+v, %v, want %+v, %v", a, b, got, is, want, ok)
	}
}

// wantAll holds all that a forest tells against the model, of nodes past its ends too.
func wantAll(t *testing.T, f forest, m *model) {
	t.Helper()
	if !f.Check() {
		t.Fatalf("Check: got false of %+v", f)
	}
	n := len(m.there)
	for a := -1; a <= n; a++ {
		wantNode(t, f, m, a)
		for b := -1; b <= n; b++ {
			wantPair(t, f, m, a, b)
		}
	}
	for _, v := range []int{math.MinInt, math.MaxInt} {
		wantNode(t, f, m, v)
		wantPair(t, f, m, v, 0)
		wantPair(t, f, m, 0, v)
		wantPair(t, f, m, v, v)
	}
}

// both is a forest and its model, to which the same is done.
type both struct {
	t *testing.T
	f forest
	m *model
}

func newBoth(t *testing.T, k kind, n int) *both {
	t.Helper()
	f := k.make(n)
	if f == nil {
		t.Fatalf("New(%d): got nil", n)
	}
	return &both{t, f, newModel(n)}
}

func (x *both) want(what string, got, model, want bool) {
	x.t.Helper()
	if model != want {
		x.t.Fatalf("%s: the model says %v, the test %v", what, model, want)
	}
	if got != want {
		x.t.Fatalf("%s: got %v, want %v", what, got, want)
	}
}

func (x *both) add(v, w int, want bool) {
	x.t.Helper()
	x.want("Add", x.f.Add(v, w), x.m.add(v, w), want)
}

func (x *both) drop(v int, want bool) {
	x.t.Helper()
	x.want("Drop", x.f.Drop(v), x.m.drop(v), want)
}

func (x *both) link(c, p int, want bool) {
	x.t.Helper()
	x.want("Link", x.f.Link(c, p), x.m.link(c, p), want)
}

func (x *both) cut(c int, want bool) {
	x.t.Helper()
	x.want("Cut", x.f.Cut(c), x.m.cut(c), want)
}

func (x *both) evert(v int, want bool) {
	x.t.Helper()
	x.want("Evert", x.f.Evert(v), x.m.evert(v), want)
}

func (x *both) set(v, w int, want bool) {
	x.t.Helper()
	x.want("Set", x.f.Set(v, w), x.m.set(v, w), want)
}

func (x *both) pathAdd(a, b, by int, want bool) {
	x.t.Helper()
	x.want("PathAdd", x.f.PathAdd(a, b, by), x.m.pathAdd(a, b, by), want)
}

func (x *both) same() {
	x.t.Helper()
	wantAll(x.t, x.f, x.m)
}

// grown is a forest of two trees and a gap: 1 and 2 below 0, 3 and 4 below 1, 5 below 3; 7 below 6; 8 isn't there, 9 is a root alone.
func grown(t *testing.T, k kind) *both {
	t.Helper()
	x := newBoth(t, k, 10)
	for _, v := range []int{0, 1, 2, 3, 4, 5, 6, 7, 9} {
		x.add(v, 10*v-3, true)
	}
	for _, l := range [][2]int{{1, 0}, {2, 0}, {3, 1}, {4, 1}, {5, 3}, {7, 6}} {
		x.link(l[0], l[1], true)
	}
	x.same()
	return x
}
