package table

import (
	"maps"
	"math"
	"math/rand"
	"slices"
	"testing"
)

// Written out, not taken from api: how far ids go and how many there may be is part of the promise.
const (
	lastId = 1<<31 - 1
	most   = 1 << 20
)

// notIds are numbers that no table takes; some come to an id, or to the key of a cell without one, where bits are lost.
func notIds() []int {
	return []int{-1, -2, -3, -8, lastId + 1, lastId + 2, -lastId, -lastId - 1, math.MinInt32, math.MaxUint32,
		1 << 32, 1<<32 + 1, 1<<32 + 7, 1<<63 - 1, math.MinInt, math.MinInt + 1, math.MinInt + 7, math.MaxInt, math.MaxInt - 1}
}

func wantGet(t *testing.T, x *Table, id, n int) {
	t.Helper()
	if got, ok := x.Get(id); got != n || !ok {
		t.Fatalf("Get(%d): got %d, %v, want %d, true", id, got, ok, n)
	}
}

func wantNoGet(t *testing.T, x *Table, id int) {
	t.Helper()
	if got, ok := x.Get(id); got != 0 || ok {
		t.Fatalf("Get(%d): got %d, %v, want 0, false", id, got, ok)
	}
}

func wantPut(t *testing.T, x *Table, id, n int, want bool) {
	t.Helper()
	if got := x.Put(id, n); got != want {
		t.Fatalf("Put(%d, %d): got %v, want %v", id, n, got, want)
	}
}

func wantDrop(t *testing.T, x *Table, id int, want bool) {
	t.Helper()
	if got := x.Drop(id); got != want {
		t.Fatalf("Drop(%d): got %v, want %v", id, got, want)
	}
}

func wantList(t *testing.T, x *Table, want ...int) {
	t.Helper()
	if got := x.List(); !slices.Equal(got, want) {
		t.Fatalf("List: got %v, want %v", got, want)
	}
	if got := x.Len(); got != len(want) {
		t.Fatalf("Len: got %d, want %d", got, len(want))
	}
}

// wantSame holds all that a table tells against a map, and its cells against what the chapter says of them.
func wantSame(t *testing.T, x *Table, m map[int]int) {
	t.Helper()
	wantList(t, x, slices.Sorted(maps.Keys(m))...)
	for id, n := range m {
		wantGet(t, x, id, n)
	}
	wantRoomy(t, x)
}

// wantRoomy: there are twice as many cells as ids at least, and free ones for a search to end at.
func wantRoomy(t *testing.T, x *Table) {
	t.Helper()
	ids, used := 0, 0
	for _, c := range x.cells {
		if c.key > free {
			ids++
		}
		if c.key != free {
			used++
		}
	}
	if ids != x.ids || used != x.used {
		t.Fatalf("%d ids in %d cells, told as %d in %d", ids, used, x.ids, x.used)
	}
	if len(x.cells) < 2*used {
		t.Fatalf("%d cells, of which %d are used", len(x.cells), used)
	}
}

// P3.1: the example of the chapter.
func TestExample(t *testing.T) {
	x := New()
	wantPut(t, x, 7, 70, true)
	wantPut(t, x, 3, 30, true)
	wantList(t, x, 3, 7)
	wantGet(t, x, 7, 70)
	wantGet(t, x, 3, 30)
}

// P3.1: a table to which nothing came, or in which nothing stayed, has nothing.
func TestEmpty(t *testing.T) {
	left := New()
	for id := range 20 {
		wantPut(t, left, id, 5, true)
	}
	for id := range 20 {
		wantDrop(t, left, id, true)
	}
	for _, x := range []*Table{New(), left} {
		for _, id := range append(notIds(), 0, 1, 2, 7, 8, 19, lastId-1, lastId) {
			wantNoGet(t, x, id)
			wantDrop(t, x, id, false)
			wantList(t, x)
		}
	}
}

// P3.1: a nil table has nothing, and takes nothing.
func TestNil(t *testing.T) {
	var x *Table
	for _, id := range append(notIds(), 0, 1, lastId) {
		wantPut(t, x, id, 1, false)
		wantNoGet(t, x, id)
		wantDrop(t, x, id, false)
		wantList(t, x)
	}
}

// P3.1: New answers a table each time, and they know nothing of each other.
func TestApart(t *testing.T) {
	x, y := New(), New()
	if x == nil || y == nil || x == y {
		t.Fatal("New: want two tables")
	}
	wantPut(t, x, 1, 10, true)
	wantNoGet(t, y, 1)
	wantPut(t, y, 1, 11, true)
	wantPut(t, y, 2, 12, true)
	wantDrop(t, x, 1, true)
	wantList(t, x)
	wantList(t, y, 1, 2)
	wantGet(t, y, 1, 11)
}

// P3.1: ids are 0 to MaxId, in a table of any size.
func TestEnds(t *testing.T) {
	for _, others := range []int{0, 1, 3, 100} {
		x := New()
		for i := range others {
			wantPut(t, x, 1000+i, i, true)
		}
		for _, id := range notIds() {
			wantPut(t, x, id, 4, false)
			wantNoGet(t, x, id)
			wantDrop(t, x, id, false)
		}
		if x.Len() != others {
			t.Fatalf("Len: got %d, want %d", x.Len(), others)
		}
		for i, id := range []int{lastId, 0, lastId - 1, 1} {
			wantPut(t, x, id, i, true)
			wantPut(t, x, id, i+1, false)
			wantGet(t, x, id, i)
		}
		for _, id := range notIds() {
			wantPut(t, x, id, 4, false)
			wantNoGet(t, x, id)
			wantDrop(t, x, id, false)
		}
		for i, id := range []int{lastId, 0, lastId - 1, 1} {
			wantGet(t, x, id, i)
			wantDrop(t, x, id, true)
			wantNoGet(t, x, id)
		}
	}
}

// P3.1: what isn't an id isn't found in cells of ids that went, nor in free ones.
func TestNotIdsAmongGone(t *testing.T) {
	x := New()
	for id := range 200 {
		wantPut(t, x, id, 9, true)
		if id%5 != 0 {
			wantDrop(t, x, id, true)
		}
		for _, wrong := range notIds() {
			wantNoGet(t, x, wrong)
			wantDrop(t, x, wrong, false)
		}
	}
	if x.Len() != 40 {
		t.Fatalf("Len: got %d, want 40", x.Len())
	}
}

// P3.1: the number of an id may be any.
func TestAnyNumber(t *testing.T) {
	numbers := []int{0, 1, -1, -2, math.MaxInt, math.MinInt, math.MaxInt32, math.MinInt32, 1 << 32, 1 << 40, lastId + 1}
	x := New()
	for id, n := range numbers {
		wantPut(t, x, id, n, true)
		wantGet(t, x, id, n)
	}
	for id := range 100 { // so that the table grows
		wantPut(t, x, 100+id, 0, true)
	}
	for id, n := range numbers {
		wantGet(t, x, id, n)
	}
}

// P3.1: an id that is there is refused, and keeps its number.
func TestTwice(t *testing.T) {
	x := New()
	for id := range 50 {
		wantPut(t, x, id, id*id, true)
		wantPut(t, x, id, id*id, false)
		wantPut(t, x, id, -1, false)
		wantPut(t, x, id/2, 0, false)
	}
	for id := range 50 {
		wantGet(t, x, id, id*id)
	}
	if x.Len() != 50 {
		t.Fatalf("Len: got %d, want 50", x.Len())
	}
}

// P3.1: an id that isn't there can't go, neither ahead of its coming nor a second time.
func TestDropTwice(t *testing.T) {
	x := New()
	wantDrop(t, x, 6, false)
	wantPut(t, x, 6, 1, true)
	wantDrop(t, x, 7, false)
	wantDrop(t, x, 6, true)
	wantDrop(t, x, 6, false)
	wantList(t, x)
	wantPut(t, x, 7, 2, true)
	wantDrop(t, x, 6, false)
	wantList(t, x, 7)
}

// P3.1, P3.2: an id that went comes again with another number, more often than there are cells.
func TestAgain(t *testing.T) {
	x := New()
	wantPut(t, x, 5, 55, true)
	for n := range 1000 {
		wantPut(t, x, 4, n, true)
		wantPut(t, x, 4, n+1, false)
		wantGet(t, x, 4, n)
		wantList(t, x, 4, 5)
		wantDrop(t, x, 4, true)
		wantNoGet(t, x, 4)
		wantGet(t, x, 5, 55)
		wantRoomy(t, x)
	}
	if len(x.cells) > 2*least {
		t.Fatalf("%d cells for two ids", len(x.cells))
	}
}

// meeting answers n ids that are searched from one cell on, as long as the table has so many cells as now.
func meeting(x *Table, at, n int) []int {
	var l []int
	for id := 0; len(l) < n; id++ {
		if x.home(id) == at {
			l = append(l, id)
		}
	}
	return l
}

// ofCells answers a table with no ids, but with cells.
func ofCells() *Table {
	x := New()
	x.Put(0, 0)
	x.Drop(0)
	x.grow()
	return x
}

// P3.1, P3.2: ids that meet in one cell, the last one of all too: each goes by itself, in each order, and comes again.
func TestMeeting(t *testing.T) {
	orders := [][3]int{{0, 1, 2}, {0, 2, 1}, {1, 0, 2}, {1, 2, 0}, {2, 0, 1}, {2, 1, 0}}
	for at := range least {
		for _, order := range orders {
			x, m := ofCells(), map[int]int{}
			ids := meeting(x, at, 3)
			for i, id := range ids {
				wantPut(t, x, id, i, true)
				m[id] = i
				wantSame(t, x, m)
			}
			if len(x.cells) != least {
				t.Fatalf("%d cells for three ids", len(x.cells))
			}
			for _, i := range order {
				wantDrop(t, x, ids[i], true)
				delete(m, ids[i])
				wantNoGet(t, x, ids[i])
				wantDrop(t, x, ids[i], false)
				wantSame(t, x, m)
			}
			for _, i := range order {
				wantPut(t, x, ids[i], i+10, true)
				wantPut(t, x, ids[i], i, false)
				m[ids[i]] = i + 10
				wantSame(t, x, m)
			}
		}
	}
}

// P3.1: an id that stands behind a cell whose id went is there, and isn't taken a second time.
func TestBehindGone(t *testing.T) {
	x := ofCells()
	ids := meeting(x, least-1, 3)
	wantPut(t, x, ids[0], 1, true)
	wantPut(t, x, ids[1], 2, true)
	wantDrop(t, x, ids[0], true)
	wantPut(t, x, ids[1], 3, false)
	wantGet(t, x, ids[1], 2)
	wantNoGet(t, x, ids[2])
	wantList(t, x, ids[1])
	wantDrop(t, x, ids[1], true)
	wantNoGet(t, x, ids[1])
	wantList(t, x)
}

// P3.1: List rises, whatever the order in which ids came.
func TestListRises(t *testing.T) {
	ids := []int{0, 1, 2, 9, 10, 255, 256, 65535, 1 << 20, 1 << 30, lastId - 1, lastId}
	r := rand.New(rand.NewSource(3))
	for range 100 {
		x := New()
		for _, i := range r.Perm(len(ids)) {
			wantPut(t, x, ids[i], i, true)
		}
		wantList(t, x, ids...)
	}
}

// P3.1 (rule 3): a list is its own; what is done to it, the table doesn't know, nor the other way round.
func TestListIsNew(t *testing.T) {
	x := New()
	for id := range 10 {
		wantPut(t, x, id, id+100, true)
	}
	first, second := x.List(), x.List()
	for i := range first {
		first[i] = 77
	}
	_ = append(first[:0], 1, 2, 3)
	wantList(t, x, 0, 1, 2, 3, 4, 5, 6, 7, 8, 9)
	wantGet(t, x, 3, 103)
	wantNoGet(t, x, 77)
	wantDrop(t, x, 4, true)
	wantPut(t, x, 12, 1, true)
	if !slices.Equal(second, []int{0, 1, 2, 3, 4, 5, 6, 7, 8, 9}) {
		t.Fatalf("an earlier list became %v", second)
	}
}

// P3.1: MaxNodes ids, and one more.
func TestFull(t *testing.T) {
	x := New()
	const step = 2047 // the greatest id is about MaxId
	for i := range most {
		if !x.Put(i*step, i) {
			t.Fatalf("Put(%d) with %d ids: got false", i*step, i)
		}
	}
	wantPut(t, x, 1, 1, false)
	wantPut(t, x, 0, 1, false)
	wantPut(t, x, lastId, 1, false)
	wantNoGet(t, x, lastId)
	wantRoomy(t, x)
	if x.Len() != most {
		t.Fatalf("Len: got %d, want %d", x.Len(), most)
	}
	wantDrop(t, x, step, true)
	wantPut(t, x, lastId, -5, true)
	wantPut(t, x, step, 1, false)
	wantGet(t, x, lastId, -5)
	wantNoGet(t, x, step)
	wantRoomy(t, x)
	l := x.List()
	if len(l) != most || l[0] != 0 || l[1] != 2*step || l[most-1] != lastId || !slices.IsSorted(l) {
		t.Fatalf("List of all: %d ids, from %d to %d", len(l), l[0], l[len(l)-1])
	}
	for i := 2; i < most; i++ {
		if n, ok := x.Get(i * step); n != i || !ok {
			t.Fatalf("Get(%d): got %d, %v, want %d, true", i*step, n, ok, i)
		}
	}
	for _, id := range l {
		if !x.Drop(id) {
			t.Fatalf("Drop(%d): got false", id)
		}
	}
	wantList(t, x)
	wantPut(t, x, 3, 3, true)
	wantList(t, x, 3)
}

// P3.1, P3.2: all that short runs can do with ids that meet is what a map does.
func TestShortRuns(t *testing.T) {
	ids := append(meeting(ofCells(), least-1, 2), meeting(ofCells(), 0, 1)...)
	for run := range 1 << 14 {
		x, m := ofCells(), map[int]int{}
		for step := range 7 {
			what := run >> (2 * step) & 3
			if what == 3 { // all of them, by turns, so that gone cells heap up
				what = step % 3
			}
			flip(t, x, m, ids[what], step)
		}
		wantSame(t, x, m)
	}
}

// flip puts an id that isn't there, and drops one that is, after what must be refused.
func flip(t *testing.T, x *Table, m map[int]int, id, n int) {
	t.Helper()
	if old, ok := m[id]; ok {
		wantPut(t, x, id, n, false)
		wantGet(t, x, id, old)
		wantDrop(t, x, id, true)
		delete(m, id)
		return
	}
	wantNoGet(t, x, id)
	wantDrop(t, x, id, false)
	wantPut(t, x, id, n, true)
	m[id] = n
}

// P3.2: what came and didn't go is there, along runs in which many come and go, and the table grows.
func TestLongRuns(t *testing.T) {
	r := rand.New(rand.NewSource(33))
	for _, ids := range []int{2, 10, 100, 3000} {
		for _, step := range []int{1, 8, 1 << 12, lastId / 3000} {
			x, m := New(), map[int]int{}
			for i := range 6000 {
				flip(t, x, m, r.Intn(ids)*step, r.Int()-r.Int())
				if i%500 == 0 {
					wantSame(t, x, m)
				}
			}
			wantSame(t, x, m)
		}
	}
}

// P3.2: a few stay while many others come and go; the cells of these are swept.
func TestFewStay(t *testing.T) {
	x, m := New(), map[int]int{}
	for id := range 5 {
		wantPut(t, x, id*1000, id, true)
		m[id*1000] = id
	}
	for id := 10_000; id < 60_000; id++ {
		wantPut(t, x, id, id, true)
		wantDrop(t, x, id, true)
	}
	wantSame(t, x, m)
	if len(x.cells) > 64 {
		t.Fatalf("%d cells for five ids", len(x.cells))
	}
}

// P3.2: many come, all but a few go, and many come again.
func TestWaves(t *testing.T) {
	x, m := New(), map[int]int{}
	for wave := range 6 {
		for i := range 2000 {
			id := wave*500 + i
			if _, ok := m[id]; !ok {
				wantPut(t, x, id, wave, true)
				m[id] = wave
			}
		}
		wantSame(t, x, m)
		for i := range 2000 {
			if id := wave*500 + i; id%97 != 0 {
				wantDrop(t, x, id, true)
				delete(m, id)
			}
		}
		wantSame(t, x, m)
	}
}
