package tally

import (
	"math"
	"math/rand"
	"slices"
	"sync"
	"testing"

	"arboretum/api"
)

// sorted is the chapter's list of sorts, by the operations' names.
func sorted() map[int]int {
	return map[int]int{
		api.OpAdd: 1, api.OpRemove: 1, api.OpLink: 1, api.OpCut: 1, api.OpEvert: 1,
		api.OpLca: 2, api.OpPathAdd: 2, api.OpPath: 2,
		api.OpSub: 3, api.OpSize: 3,
	}
}

// ofNoSort are numbers of no sort: kinds of operations that have none, and no kinds at all; some come to a kind where bits are lost.
func ofNoSort() []int {
	return []int{api.OpConnected, api.OpRoot, api.OpParent, api.OpWeight, api.OpSet, api.OpRaise,
		api.OpExport, api.OpImport, api.OpMigrate, api.OpCount,
		0, -1, -2, -3, -5, -16, 21, 22, 32, 33, 99, 255, 256, 257, 1<<16 + 1, math.MaxInt32, math.MinInt32, 1 << 32, 1<<32 + 1, 1<<32 + 9, 1<<32 + 15,
		math.MaxInt, math.MaxInt - 1, math.MinInt, math.MinInt + 1, math.MinInt + 9}
}

// kinds are numbers of every sort.
func kinds() []int {
	l := ofNoSort()
	for k := range sorted() {
		l = append(l, k)
	}
	slices.Sort(l)
	return l
}

func wantLoad(t *testing.T, x *Tally, want api.Load) {
	t.Helper()
	if got := x.Load(); got != want {
		t.Fatalf("Load: got %+v, want %+v", got, want)
	}
}

// count is a plain one, by the chapter's list.
func count(ks []int) api.Load {
	var l api.Load
	of := sorted()
	for _, k := range ks {
		l.All++
		switch of[k] {
		case 1:
			l.Shape++
		case 2:
			l.Paths++
		case 3:
			l.Subs++
		}
	}
	return l
}

// P4.1: the sort of each kind that the chapter names.
func TestSort(t *testing.T) {
	for k, want := range sorted() {
		if got := Sort(k); got != want {
			t.Errorf("Sort(%d): got %d, want %d", k, got, want)
		}
	}
}

// P4.1: 0 of any other number, the ends of int too.
func TestSortOfNone(t *testing.T) {
	for _, k := range ofNoSort() {
		if got := Sort(k); got != 0 {
			t.Errorf("Sort(%d): got %d, want 0", k, got)
		}
	}
	of := sorted()
	for k := -1000; k <= 1000; k++ {
		if got := Sort(k); got != of[k] {
			t.Errorf("Sort(%d): got %d, want %d", k, got, of[k])
		}
	}
}

// P4.1, rule 4: a sort is the same whenever it is asked for.
func TestSortAgain(t *testing.T) {
	for range 3 {
		TestSort(t)
		TestSortOfNone(t)
	}
}

// P4.1: the chapter's example.
func TestExample(t *testing.T) {
	var x Tally
	for _, k := range []int{api.OpAdd, api.OpPath, api.OpCount} {
		x.Note(k)
	}
	wantLoad(t, &x, api.Load{All: 3, Shape: 1, Paths: 1})
}

// P4.1: each kind is counted once, in all and in its sort alone.
func TestNoteEach(t *testing.T) {
	for _, k := range kinds() {
		var x Tally
		x.Note(k)
		wantLoad(t, &x, count([]int{k}))
	}
}

// P4.1: the zero value has counted nothing; asking doesn't count.
func TestZeroValue(t *testing.T) {
	var x Tally
	wantLoad(t, &x, api.Load{})
	wantLoad(t, &x, api.Load{})
	Sort(api.OpAdd)
	wantLoad(t, &x, api.Load{})
	wantLoad(t, new(Tally), api.Load{})
}

// P4.1: a count stays till it is cleared.
func TestLoadAgain(t *testing.T) {
	var x Tally
	for _, k := range kinds() {
		x.Note(k)
	}
	want := count(kinds())
	wantLoad(t, &x, want)
	wantLoad(t, &x, want)
}

// P4.1: behind Clear none came, behind a second one neither, and then it is counted from none on.
func TestClear(t *testing.T) {
	var x Tally
	x.Clear()
	wantLoad(t, &x, api.Load{})
	for range 3 {
		for _, k := range kinds() {
			x.Note(k)
		}
		wantLoad(t, &x, count(kinds()))
		x.Clear()
		wantLoad(t, &x, api.Load{})
		x.Clear()
		wantLoad(t, &x, api.Load{})
		for _, k := range kinds() {
			x.Note(k)
			wantLoad(t, &x, count([]int{k}))
			x.Clear()
			wantLoad(t, &x, api.Load{})
		}
	}
}

// P4.1: a nil count has counted nothing, whatever is done with it.
func TestNil(t *testing.T) {
	var x *Tally
	wantLoad(t, x, api.Load{})
	for _, k := range kinds() {
		x.Note(k)
		wantLoad(t, x, api.Load{})
	}
	x.Clear()
	wantLoad(t, x, api.Load{})
}

// Rule 4: what one count is told, another one doesn't know.
func TestApart(t *testing.T) {
	var x, y Tally
	var none *Tally
	x.Note(api.OpAdd)
	none.Note(api.OpSub)
	wantLoad(t, &y, api.Load{})
	y.Note(api.OpPath)
	wantLoad(t, &x, api.Load{All: 1, Shape: 1})
	none.Clear()
	x.Clear()
	wantLoad(t, &y, api.Load{All: 1, Paths: 1})
}

// P4.1: many that came, of one sort each: past what fewer bits would hold.
func TestMany(t *testing.T) {
	const many = 1<<20 + 3
	for k, want := range map[int]api.Load{
		api.OpEvert:     {All: many, Shape: many},
		api.OpLca:       {All: many, Paths: many},
		api.OpSize:      {All: many, Subs: many},
		api.OpConnected: {All: many},
	} {
		var x Tally
		for range many {
			x.Note(k)
		}
		wantLoad(t, &x, want)
		x.Clear()
		wantLoad(t, &x, api.Load{})
	}
}

// P4.2: the same operations in another order, forth, back and shuffled.
func TestOrder(t *testing.T) {
	r := rand.New(rand.NewSource(4))
	all := kinds()
	for range 200 {
		ks := make([]int, r.Intn(60))
		for i := range ks {
			ks[i] = all[r.Intn(len(all))]
		}
		want := count(ks)
		for range 4 {
			var x Tally
			for _, k := range ks {
				x.Note(k)
			}
			wantLoad(t, &x, want)
			slices.Reverse(ks)
			var y Tally
			for _, k := range ks {
				y.Note(k)
				y.Load()
			}
			wantLoad(t, &y, want)
			r.Shuffle(len(ks), func(i, j int) { ks[i], ks[j] = ks[j], ks[i] })
		}
	}
}

// P4.1, P4.2: a long run of notes, clears and questions, against a plain list of what came.
func TestRun(t *testing.T) {
	r := rand.New(rand.NewSource(41))
	all := kinds()
	var x Tally
	var came []int
	for range 20000 {
		switch n := r.Intn(100); {
		case n == 0:
			x.Clear()
			came = nil
		case n < 10:
			wantLoad(t, &x, count(came))
		default:
			k := all[r.Intn(len(all))]
			x.Note(k)
			came = append(came, k)
		}
	}
	wantLoad(t, &x, count(came))
}

// The chapter's ways: counts are atomic, so none is lost where several note at once; and the sorts are there for each of them.
func TestAtOnce(t *testing.T) {
	const workers, rounds = 8, 5000
	var x Tally
	var w sync.WaitGroup
	ks := kinds()
	for range workers {
		w.Go(func() {
			for i := range rounds {
				x.Note(ks[i%len(ks)])
				x.Load()
			}
		})
	}
	w.Wait()
	var came []int
	for range workers {
		for i := range rounds {
			came = append(came, ks[i%len(ks)])
		}
	}
	wantLoad(t, &x, count(came))
}
