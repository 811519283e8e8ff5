package crc

import (
	"bytes"
	"math/rand"
	"slices"
	"testing"
)

// changed answers l with the bits of change turned, from the byte at on.
func changed(l []byte, at int, change []byte) string {
	l = bytes.Clone(l)
	for i, c := range change {
		l[at+i] ^= c
	}
	return string(l)
}

// wantOther: with the bits of change turned, from the byte at on, l has another sum.
func wantOther(t *testing.T, l []byte, at int, change ...byte) {
	t.Helper()
	if Sum(changed(l, at, change)) == Sum(string(l)) {
		t.Fatalf("%d bytes, changed from %d on by %x, have the same sum", len(l), at, change)
	}
}

// texts are bytes of which some are changed: of one kind and of many, a few and many thousands.
func texts() [][]byte {
	return [][]byte{
		[]byte("1234"),
		make([]byte, 4),
		bytes.Repeat([]byte{0xff}, 4),
		[]byte("123456789"),
		make([]byte, 9),
		someBytes(7, 49),
		bytes.Repeat([]byte("root"), 1000),
		someBytes(8, 20003),
	}
}

// places are where n bytes of l stand at the beginning, in the midst, at the end, and beside each of these.
func places(l []byte, n int) []int {
	last := len(l) - n
	var at []int
	for _, p := range []int{0, 1, last/2 - 1, last / 2, last/2 + 1, last - 1, last} {
		if p >= 0 && p <= last {
			at = append(at, p)
		}
	}
	slices.Sort(at)
	return slices.Compact(at)
}

// P11.2: one byte is another one: each place of short texts, each of the 255 others.
func TestOneOther(t *testing.T) {
	for _, l := range texts() {
		if len(l) > 100 {
			continue
		}
		for at := range l {
			for c := 1; c < 256; c++ {
				wantOther(t, l, at, byte(c))
			}
		}
	}
	for c := 1; c < 256; c++ {
		wantOther(t, []byte{0x5a}, 0, byte(c))
	}
}

// P11.2: two bytes are others, in every way there is.
func TestTwoOthers(t *testing.T) {
	for _, l := range [][]byte{{0, 0}, []byte("ab"), []byte("123456789")} {
		for _, at := range places(l, 2) {
			for c := 1; c < 1<<16; c++ {
				wantOther(t, l, at, byte(c>>8), byte(c))
			}
		}
	}
}

// P11.2: one to four bytes are others, where they stand at the beginning, in the midst and at the end: by bits alone, by all bits, and by any.
func TestFewOthers(t *testing.T) {
	r := rand.New(rand.NewSource(11))
	for _, l := range texts() {
		for n := 1; n <= 4; n++ {
			tries := min(500, 1<<20/len(l))
			for _, at := range places(l, n) {
				for bit := range 8 * n {
					change := make([]byte, n)
					change[bit/8] = 1 << (bit % 8)
					wantOther(t, l, at, change...)
				}
				wantOther(t, l, at, bytes.Repeat([]byte{0xff}, n)...)
				for range tries {
					wantOther(t, l, at, anyChange(r, n)...)
				}
			}
		}
	}
}

// anyChange answers n bytes of which the first and the last aren't 0: so that no fewer than n bytes are others, from end to end.
func anyChange(r *rand.Rand, n int) []byte {
	change := make([]byte, n)
	r.Read(change)
	change[0] |= 1 << r.Intn(8)
	change[n-1] |= 1 << r.Intn(8)
	return change
}

// P11.2: no two of the changes of four bytes side by side come to one sum, none to the one that was: the sum changes bit for bit, and no bit's change is made up of other bits' ones. There are too many changes to try them all.
func TestAllFours(t *testing.T) {
	r := rand.New(rand.NewSource(12))
	for _, l := range texts() {
		for _, at := range places(l, 4) {
			by := bitChanges(l, at)
			if got := rank(by); got != 32 {
				t.Errorf("%d bytes, changed from %d on: of 32 bits' changes only %d stand by themselves", len(l), at, got)
			}
			for range min(200, 1<<20/len(l)) {
				change := anyChange(r, 4)
				want := Sum(string(l)) ^ together(by, change)
				wantSum(t, changed(l, at, change), want)
			}
		}
	}
}

// bitChanges answers how the sum of l changes by each of 32 bits from the byte at on.
func bitChanges(l []byte, at int) []uint32 {
	var by []uint32
	for bit := range 32 {
		change := make([]byte, 4)
		change[bit/8] = 1 << (bit % 8)
		by = append(by, Sum(string(l))^Sum(changed(l, at, change)))
	}
	return by
}

// together answers how a sum changes by all bits of change, if each bit has its own part in it.
func together(by []uint32, change []byte) uint32 {
	var all uint32
	for bit, one := range by {
		if change[bit/8]>>(bit%8)&1 == 1 {
			all ^= one
		}
	}
	return all
}

// rank answers how many of l aren't made up of the ones ahead.
func rank(l []uint32) int {
	var tops []uint32
	for _, n := range l {
		for _, top := range tops {
			// The lesser of the two has not the highest bit of top.
			n = min(n, n^top)
		}
		if n != 0 {
			tops = append(tops, n)
		}
	}
	return len(tops)
}
