package tally

import (
	"math"
	"slices"
	"testing"

	"arboretum/api"
)

// wantLearned holds what Sort works out, what was learned once and the chapter's list against each other.
func wantLearned(t *testing.T, kind, want int) {
	t.Helper()
	if worked, told := Sort(kind), learned(kind); worked != want || told != want {
		t.Errorf("kind %d: worked out %d, learned %d, want %d", kind, worked, told, want)
	}
}

// wantNoted holds what Note counts against what Sort works out.
func wantNoted(t *testing.T, kind int) {
	t.Helper()
	var x Tally
	x.Note(kind)
	l := x.Load()
	noted := []int{l.All - l.Shape - l.Paths - l.Subs, l.Shape, l.Paths, l.Subs}
	want := make([]int, 4)
	want[Sort(kind)] = 1
	if !slices.Equal(noted, want) {
		t.Errorf("kind %d: noted by its sort: %v, want %v", kind, noted, want)
	}
}

// P4.1, for each kind of operation: what is worked out and what was learned once are the same.
func TestLearnedOfKinds(t *testing.T) {
	of := sorted()
	for kind := api.OpAdd; kind <= api.OpCount; kind++ {
		wantLearned(t, kind, of[kind])
		wantNoted(t, kind)
	}
}

// P4.1, for numbers of no sort, those about the list's ends among them.
func TestLearnedOfNone(t *testing.T) {
	for _, kind := range ofNoSort() {
		wantLearned(t, kind, 0)
		wantNoted(t, kind)
	}
	of := sorted()
	for kind := -1000; kind <= 1000; kind++ {
		wantLearned(t, kind, of[kind])
		wantNoted(t, kind)
	}
}

// P4.1, for the ends of int, and numbers that come to a kind where upper bits are lost.
func TestLearnedOfEnds(t *testing.T) {
	for i := range 64 {
		wantLearned(t, math.MaxInt-i, 0)
		wantLearned(t, math.MinInt+i, 0)
		wantNoted(t, math.MaxInt-i)
		wantNoted(t, math.MinInt+i)
	}
	for _, high := range []int{1 << 8, 1 << 16, 1 << 32, 1 << 62, math.MinInt} {
		for kind := range sorted() {
			wantLearned(t, kind+high, 0)
			wantNoted(t, kind+high)
		}
	}
}

// The chapter's ways: the sorts are learned once, and stay as they were, whatever comes.
func TestLearnedOnce(t *testing.T) {
	learned(api.OpAdd)
	first := sorts
	var x Tally
	for _, kind := range kinds() {
		Sort(kind)
		learned(kind)
		x.Note(kind)
	}
	x.Clear()
	if sorts != first {
		t.Errorf("learned anew: %v, at first %v", sorts, first)
	}
	again := false
	once.Do(func() { again = true })
	if again {
		t.Error("once had not been asked for what was learned")
	}
}
