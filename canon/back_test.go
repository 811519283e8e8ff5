package canon

import (
	"math/rand"
	"slices"
	"testing"

	"arboretum/api"
)

// thereAndBack: l are a forest's, go there and come back, and the bytes again.
func thereAndBack(t *testing.T, l []api.Node) string {
	t.Helper()
	s, ok := Print(l)
	if !ok || !Check(l) {
		t.Fatalf("Print of %s: they are none's", some(l))
	}
	wantParse(t, s, l)
	back, _ := Parse(s)
	wantPrint(t, back, s)
	return s
}

// P13.3: forests of all shapes and lengths go there and back, and no two of them are the same bytes.
func TestThereAndBack(t *testing.T) {
	r := rand.New(rand.NewSource(4))
	seen := map[string][]api.Node{}
	for n := range 200 {
		for range 10 {
			l := someForest(r, n+1)
			s := thereAndBack(t, l)
			if old, was := seen[s]; was && !slices.Equal(old, l) {
				t.Fatalf("%s and %s have the same bytes", some(old), some(l))
			}
			seen[s] = l
		}
	}
	for _, n := range []int{1 << 12, 1<<16 + 1, 1 << 18} {
		thereAndBack(t, someForest(r, n))
	}
}

// P13.3: all forests of four nodes of few ids go there and back.
func TestAllShortThereAndBack(t *testing.T) {
	seen := map[string]bool{}
	for n := range 5 * 5 * 5 * 5 {
		l := []api.Node{below(0, n%5-1), below(1, n/5%5-1), below(2, n/25%5-1), below(3, n/125-1)}
		if Check(l) {
			seen[thereAndBack(t, l)] = true
		}
	}
	if len(seen) != 125 {
		t.Errorf("%d bytes of forests of four nodes, want 125", len(seen))
	}
}

// turnedBytes answers s with the bytes from a place on mixed with others.
func turnedBytes(s string, at int, by ...byte) string {
	b := []byte(s)
	for i, x := range by {
		b[at+i] ^= x
	}
	return string(b)
}

// P13.3: one byte that is another one, and two side by side, at each place.
func TestOtherBytes(t *testing.T) {
	for _, c := range known {
		for at := range c.s {
			for x := 1; x < 256; x++ {
				wantNone(t, turnedBytes(c.s, at, byte(x)))
			}
		}
	}
	for _, c := range known[:4] {
		for at := range len(c.s) - 1 {
			for x := 1; x < 1<<16; x += 7 {
				wantNone(t, turnedBytes(c.s, at, byte(x), byte(x>>8)))
			}
		}
	}
}

// P13.3: up to four bytes side by side that are others, at each place of longer bytes, those of the length and of the sum too.
func TestOtherFour(t *testing.T) {
	r := rand.New(rand.NewSource(5))
	for n := range 20 {
		s := thereAndBack(t, someForest(r, n+1))
		for at := range len(s) - 3 {
			for range 60 {
				by := []byte{byte(r.Intn(256)), byte(r.Intn(256)), byte(r.Intn(256)), byte(r.Intn(256))}
				if by[0]|by[1]|by[2]|by[3] == 0 {
					continue
				}
				wantNone(t, turnedBytes(s, at, by...))
				wantNone(t, turnedBytes(s, at, by[0], 0, 0, by[3]|1))
				wantNone(t, turnedBytes(s, at, 0, by[1]|1, by[2]))
			}
		}
	}
}

// P13.3: up to four bytes side by side from one forest's bytes put into another one's.
func TestBytesOfTwo(t *testing.T) {
	r := rand.New(rand.NewSource(6))
	for range 200 {
		n := 1 + r.Intn(10)
		a, b := thereAndBack(t, someForest(r, n)), thereAndBack(t, someForest(r, n))
		for at := range len(a) - 3 {
			for wide := 1; wide <= 4; wide++ {
				s := a[:at] + b[at:at+wide] + a[at+wide:]
				if s != a {
					wantNone(t, s)
				}
			}
		}
	}
}

// P13.3: a bit of each of two to four bytes across the places where two parts meet.
func TestOtherAcross(t *testing.T) {
	r := rand.New(rand.NewSource(7))
	s := thereAndBack(t, someForest(r, 3))
	for _, meet := range []int{4, 8, 9, 13, 29, 45, 61} {
		for at := max(0, meet-3); at < meet; at++ {
			for bits := range 1 << 12 {
				by := []byte{1 << (bits & 7), 1 << (bits >> 3 & 7), 1 << (bits >> 6 & 7), 1 << (bits >> 9 & 7)}
				wantNone(t, turnedBytes(s, at, by...))
				wantNone(t, turnedBytes(s, at, by[:meet-at]...))
			}
		}
	}
}

// P13.3: any bytes that are taken are told again.
func TestTakenAreToldAgain(t *testing.T) {
	r := rand.New(rand.NewSource(8))
	taken := 0
	for range 50000 {
		l := someForest(r, 1+r.Intn(6))
		spoil(r, l)
		s := byLibrary(l)
		got, ok := Parse(s)
		if ok != isForest(l) {
			t.Fatalf("Parse of the bytes of %s: got %t", some(l), ok)
		}
		if !ok {
			wantNone(t, s)
			continue
		}
		taken++
		wantPrint(t, got, s)
		if !slices.Equal(got, l) {
			t.Fatalf("the bytes of %s are read as %s", some(l), some(got))
		}
	}
	if taken < 5000 || taken > 45000 {
		t.Errorf("%d of 50000 were taken", taken)
	}
}
