package arena

import (
	"math"
	"math/rand"
	"testing"

	"arboretum/api"
)

const most = 1 << 20 // written out, not taken from api: how many slots there may be is part of the promise

// model is an arena by P2.1's words: all that ever happened to the slots, looked through anew at each call.
type model struct {
	went []int  // how often each slot went
	away []bool // whether it is away
	back []int  // every coming back, in its order
}

func newModel(n int) *model {
	return &model{went: make([]int, n), away: make([]bool, n)}
}

func (m *model) take() (api.Handle, bool) {
	for i := len(m.back) - 1; i >= 0; i-- {
		if !m.away[m.back[i]] {
			return m.leave(m.back[i]), true
		}
	}
	for n, times := range m.went {
		if times == 0 {
			return m.leave(n), true
		}
	}
	return api.Handle{}, false
}

func (m *model) leave(n int) api.Handle {
	m.went[n]++
	m.away[n] = true
	return api.Handle{Slot: n, Gen: m.went[n]}
}

func (m *model) live(h api.Handle) bool {
	return h.Slot >= 0 && h.Slot < len(m.away) && m.away[h.Slot] && m.went[h.Slot] == h.Gen
}

func (m *model) give(h api.Handle) bool {
	if !m.live(h) {
		return false
	}
	m.away[h.Slot] = false
	m.back = append(m.back, h.Slot)
	return true
}

func (m *model) len() int {
	all := 0
	for _, away := range m.away {
		if away {
			all++
		}
	}
	return all
}

func wantTake(t *testing.T, a *Arena, slot, gen int) api.Handle {
	t.Helper()
	h, ok := a.Take()
	if want := (api.Handle{Slot: slot, Gen: gen}); !ok || h != want {
		t.Fatalf("Take: got %+v, %v, want %+v, true", h, ok, want)
	}
	return h
}

func wantNoTake(t *testing.T, a *Arena) {
	t.Helper()
	if h, ok := a.Take(); ok || h != (api.Handle{}) {
		t.Fatalf("Take of an arena without a free slot: got %+v, %v", h, ok)
	}
}

func wantGive(t *testing.T, a *Arena, h api.Handle, want bool) {
	t.Helper()
	if got := a.Give(h); got != want {
		t.Fatalf("Give(%+v): got %v, want %v", h, got, want)
	}
}

func wantLive(t *testing.T, a *Arena, h api.Handle, want bool) {
	t.Helper()
	if got := a.Live(h); got != want {
		t.Fatalf("Live(%+v): got %v, want %v", h, got, want)
	}
}

func wantLen(t *testing.T, a *Arena, want int) {
	t.Helper()
	if got := a.Len(); got != want {
		t.Fatalf("Len: got %d, want %d", got, want)
	}
}

// P2.1: New, at each end of what it takes.
func TestNew(t *testing.T) {
	tests := []struct {
		n  int
		ok bool
	}{
		{0, true}, {1, true}, {2, true}, {1000, true}, {most - 1, true}, {most, true}, {most + 1, false},
		{-1, false}, {-2, false}, {-most, false}, {1 << 21, false}, {1 << 32, false}, {1<<32 + 1, false},
		{math.MaxInt32, false}, {math.MinInt32, false}, {math.MaxInt, false}, {math.MinInt, false},
	}
	for _, c := range tests {
		a := New(c.n)
		if (a != nil) != c.ok {
			t.Errorf("New(%d): nil is %v, want %v", c.n, a == nil, !c.ok)
		}
		wantLen(t, a, 0)
	}
}

// P2.1: the example of the chapter.
func TestExample(t *testing.T) {
	a := New(2)
	zero := wantTake(t, a, 0, 1)
	wantTake(t, a, 1, 1)
	wantNoTake(t, a)
	wantGive(t, a, zero, true)
	wantTake(t, a, 0, 2)
	wantNoTake(t, a)
}

// P2.1: an arena of no slots, and a nil one, have nothing to give, and know no handle.
func TestNothing(t *testing.T) {
	for _, a := range []*Arena{nil, New(0), New(-1)} {
		for range 3 {
			wantNoTake(t, a)
			wantLen(t, a, 0)
			for _, h := range odd(1) {
				wantLive(t, a, h, false)
				wantGive(t, a, h, false)
			}
		}
	}
}

// P2.1: every slot of the greatest arena goes, from the least on; then there is none.
func TestAll(t *testing.T) {
	a := New(most)
	for n := range most {
		wantLen(t, a, n)
		wantTake(t, a, n, 1)
	}
	wantNoTake(t, a)
	wantLen(t, a, most)
	last := api.Handle{Slot: most - 1, Gen: 1}
	wantLive(t, a, last, true)
	wantLive(t, a, api.Handle{Slot: most, Gen: 1}, false)
	wantGive(t, a, last, true)
	wantTake(t, a, most-1, 2)
	wantNoTake(t, a)
}

// P2.1: the slot that came back last goes first, and a slot that never went only when none is back.
func TestOrder(t *testing.T) {
	a := New(6)
	var h [4]api.Handle
	for n := range h {
		h[n] = wantTake(t, a, n, 1)
	}
	for _, n := range []int{2, 0, 3} {
		wantGive(t, a, h[n], true)
	}
	wantLen(t, a, 1)
	three := wantTake(t, a, 3, 2)
	zero := wantTake(t, a, 0, 2)
	// Slot 2 is still back from the first time, and comes behind both of these.
	wantGive(t, a, h[1], true)
	wantGive(t, a, zero, true)
	wantTake(t, a, 0, 3)
	wantTake(t, a, 1, 2)
	wantTake(t, a, 2, 2)
	wantTake(t, a, 4, 1)
	wantGive(t, a, three, true)
	wantTake(t, a, 3, 3)
	wantTake(t, a, 5, 1)
	wantNoTake(t, a)
	wantLen(t, a, 6)
}

// P2.1: all come back, in each order of three, and go again in the other one.
func TestAllBack(t *testing.T) {
	for _, order := range [][3]int{{0, 1, 2}, {0, 2, 1}, {1, 0, 2}, {1, 2, 0}, {2, 0, 1}, {2, 1, 0}} {
		a := New(4)
		for n := range order {
			wantTake(t, a, n, 1)
		}
		for _, n := range order {
			wantGive(t, a, api.Handle{Slot: n, Gen: 1}, true)
		}
		wantLen(t, a, 0)
		for i := len(order) - 1; i >= 0; i-- {
			wantTake(t, a, order[i], 2)
		}
		wantTake(t, a, 3, 1)
		wantNoTake(t, a)
	}
}

// P2.1: Gen counts from 1 on, for each slot by itself, and only the newest one is live.
func TestGen(t *testing.T) {
	a := New(2)
	for gen := 1; gen <= 300; gen++ {
		h := wantTake(t, a, 0, gen)
		wantLive(t, a, h, true)
		for _, by := range []int{-2, -1, 1, 2, 256, 1 << 16, 1 << 32, math.MinInt} {
			other := api.Handle{Slot: 0, Gen: gen + by}
			wantLive(t, a, other, false)
			wantGive(t, a, other, false)
		}
		wantLen(t, a, 1)
		wantGive(t, a, h, true)
		wantLive(t, a, h, false)
		wantLen(t, a, 0)
	}
	wantTake(t, a, 0, 301)
	wantTake(t, a, 1, 1)
}

// P2.1: a slot comes back once; the second time changes nothing.
func TestGiveTwice(t *testing.T) {
	a := New(3)
	x := wantTake(t, a, 0, 1)
	y := wantTake(t, a, 1, 1)
	wantGive(t, a, x, true)
	wantGive(t, a, x, false)
	wantGive(t, a, y, true)
	wantGive(t, a, x, false)
	wantGive(t, a, y, false)
	wantLen(t, a, 0)
	wantTake(t, a, 1, 2)
	wantTake(t, a, 0, 2)
	wantGive(t, a, x, false)
	wantGive(t, a, y, false)
	wantLen(t, a, 2)
	wantTake(t, a, 2, 1)
	wantNoTake(t, a)
}

// P2.1: a slot that is free is not live, whatever Gen is asked for.
func TestFreeIsNotLive(t *testing.T) {
	a := New(2)
	x := wantTake(t, a, 0, 1)
	wantGive(t, a, x, true)
	for n := range 2 {
		for gen := -3; gen <= 3; gen++ {
			wantLive(t, a, api.Handle{Slot: n, Gen: gen}, false)
			wantGive(t, a, api.Handle{Slot: n, Gen: gen}, false)
		}
	}
	wantLen(t, a, 0)
	wantTake(t, a, 0, 2)
	wantTake(t, a, 1, 1)
}

// P2.1: handles that were never given.
func TestOddHandles(t *testing.T) {
	a := New(4)
	given := map[api.Handle]bool{}
	for range 3 {
		h, _ := a.Take()
		given[h] = true
	}
	for _, h := range odd(4) {
		if given[h] {
			continue
		}
		wantLive(t, a, h, false)
		wantGive(t, a, h, false)
		wantLen(t, a, 3)
	}
	for h := range given {
		wantLive(t, a, h, true)
	}
	wantTake(t, a, 3, 1)
	wantNoTake(t, a)
}

// P2.1: two arenas know nothing of each other.
func TestApart(t *testing.T) {
	a, b := New(2), New(2)
	x := wantTake(t, a, 0, 1)
	wantLive(t, b, x, false)
	wantGive(t, b, x, false)
	wantLen(t, b, 0)
	wantTake(t, b, 0, 1)
	wantGive(t, a, x, true)
	wantLive(t, b, x, true)
	wantLen(t, b, 1)
}

// P2.1, P2.2: all that short runs can do, step by step, is what the words say.
func TestShortRuns(t *testing.T) {
	for room := range 4 {
		for run := range 1 << 14 {
			a, m := New(room), newModel(room)
			var taken []api.Handle
			for step := range 7 {
				taken = stepBoth(t, a, m, run>>(2*step)&3, taken)
			}
			wantSame(t, a, m, taken)
		}
	}
}

// stepBoth takes a slot, or gives the first, the middle or the last of all handles so far, live or not.
func stepBoth(t *testing.T, a *Arena, m *model, what int, taken []api.Handle) []api.Handle {
	t.Helper()
	if what == 0 || len(taken) == 0 {
		return takeBoth(t, a, m, taken)
	}
	h := taken[(what-1)*(len(taken)-1)/2]
	wantGive(t, a, h, m.give(h))
	return taken
}

// P2.2: no slot is away twice at a time, and P2.1 along a long run.
func TestLongRun(t *testing.T) {
	r := rand.New(rand.NewSource(2))
	for _, room := range []int{1, 2, 5, 40} {
		a, m := New(room), newModel(room)
		var taken []api.Handle
		for range 3000 {
			if r.Intn(2) == 0 || len(taken) == 0 {
				taken = takeBoth(t, a, m, taken)
			} else {
				h := taken[r.Intn(len(taken))]
				wantGive(t, a, h, m.give(h))
			}
			wantLen(t, a, m.len())
			wantOnceAway(t, a, room, taken)
		}
		wantSame(t, a, m, taken)
	}
}

func takeBoth(t *testing.T, a *Arena, m *model, taken []api.Handle) []api.Handle {
	t.Helper()
	h, ok := a.Take()
	want, wantOk := m.take()
	if h != want || ok != wantOk {
		t.Fatalf("Take: got %+v, %v, want %+v, %v", h, ok, want, wantOk)
	}
	if !ok {
		return taken
	}
	return append(taken, h)
}

// wantOnceAway: of all handles so far at most one of each slot is live, and they are as many as Len says.
func wantOnceAway(t *testing.T, a *Arena, room int, taken []api.Handle) {
	t.Helper()
	live := make([]int, room)
	all := 0
	for _, h := range taken {
		if a.Live(h) {
			live[h.Slot]++
			all++
		}
	}
	for n, times := range live {
		if times > 1 {
			t.Fatalf("slot %d is away %d times", n, times)
		}
	}
	wantLen(t, a, all)
}

func wantSame(t *testing.T, a *Arena, m *model, taken []api.Handle) {
	t.Helper()
	wantLen(t, a, m.len())
	for _, h := range taken {
		wantLive(t, a, h, m.live(h))
	}
	for n := -1; n <= len(m.went); n++ {
		for gen := -1; gen <= 8; gen++ {
			h := api.Handle{Slot: n, Gen: gen}
			wantLive(t, a, h, m.live(h))
		}
	}
}

// odd are handles about the ends of an arena of n slots and of the number types.
func odd(n int) []api.Handle {
	slots := []int{0, 1, 2, n - 1, n, n + 1, -1, -2, most, 1 << 32, math.MinInt, math.MaxInt}
	gens := []int{0, 1, 2, -1, 1 << 32, 1<<32 + 1, math.MinInt, math.MaxInt}
	var l []api.Handle
	for _, s := range slots {
		for _, g := range gens {
			l = append(l, api.Handle{Slot: s, Gen: g})
		}
	}
	return l
}
