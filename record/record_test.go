package record

import (
	"math"
	"strings"
	"testing"

	"arboretum/api"
)

// The ends of an id and of a weight, as the document has them.
const (
	lastId   = 1<<31 - 1
	heaviest = 1 << 40
)

// all are eight bytes that are all ff.
const all = "\xff\xff\xff\xff\xff\xff\xff\xff"

// known are nodes and their records, worked out by hand: the chapter's example first, then each field at its ends, and numbers of which each byte is another one.
var known = []struct {
	x api.Node
	s string
}{
	{api.Node{Id: 1, Up: -1, Weight: -2}, "\x00\x00\x00\x01\xff\xff\xff\xff\xff\xff\xff\xff\xff\xff\xff\xfe"},
	{api.Node{Id: 0, Up: -1, Weight: 0}, "\x00\x00\x00\x00\xff\xff\xff\xff\x00\x00\x00\x00\x00\x00\x00\x00"},
	{api.Node{Id: 0, Up: 1, Weight: 1}, "\x00\x00\x00\x00\x00\x00\x00\x01\x00\x00\x00\x00\x00\x00\x00\x01"},
	{api.Node{Id: 1, Up: 0, Weight: -1}, "\x00\x00\x00\x01\x00\x00\x00\x00\xff\xff\xff\xff\xff\xff\xff\xff"},
	{api.Node{Id: lastId, Up: -1, Weight: 0}, "\x7f\xff\xff\xff\xff\xff\xff\xff\x00\x00\x00\x00\x00\x00\x00\x00"},
	{api.Node{Id: lastId, Up: 0, Weight: 0}, "\x7f\xff\xff\xff\x00\x00\x00\x00\x00\x00\x00\x00\x00\x00\x00\x00"},
	{api.Node{Id: lastId, Up: lastId - 1, Weight: 0}, "\x7f\xff\xff\xff\x7f\xff\xff\xfe\x00\x00\x00\x00\x00\x00\x00\x00"},
	{api.Node{Id: 0, Up: lastId, Weight: 0}, "\x00\x00\x00\x00\x7f\xff\xff\xff\x00\x00\x00\x00\x00\x00\x00\x00"},
	{api.Node{Id: lastId - 1, Up: lastId, Weight: 0}, "\x7f\xff\xff\xfe\x7f\xff\xff\xff\x00\x00\x00\x00\x00\x00\x00\x00"},
	{api.Node{Id: 5, Up: 6, Weight: heaviest}, "\x00\x00\x00\x05\x00\x00\x00\x06\x00\x00\x01\x00\x00\x00\x00\x00"},
	{api.Node{Id: 5, Up: 6, Weight: heaviest - 1}, "\x00\x00\x00\x05\x00\x00\x00\x06\x00\x00\x00\xff\xff\xff\xff\xff"},
	{api.Node{Id: 5, Up: 6, Weight: -heaviest}, "\x00\x00\x00\x05\x00\x00\x00\x06\xff\xff\xff\x00\x00\x00\x00\x00"},
	{api.Node{Id: 5, Up: 6, Weight: 1 - heaviest}, "\x00\x00\x00\x05\x00\x00\x00\x06\xff\xff\xff\x00\x00\x00\x00\x01"},
	{api.Node{Id: 0x01020304, Up: 0x05060708, Weight: 0x0a0b0c0d0e}, "\x01\x02\x03\x04\x05\x06\x07\x08\x00\x00\x00\x0a\x0b\x0c\x0d\x0e"},
	{api.Node{Id: 0x71f2e3d4, Up: 0x0080ff7f, Weight: -0x0a0b0c0d0e}, "\x71\xf2\xe3\xd4\x00\x80\xff\x7f\xff\xff\xff\xf5\xf4\xf3\xf2\xf2"},
	{api.Node{Id: 9, Up: 8, Weight: 1<<31 - 1}, "\x00\x00\x00\x09\x00\x00\x00\x08\x00\x00\x00\x00\x7f\xff\xff\xff"},
	{api.Node{Id: 9, Up: 8, Weight: 1 << 31}, "\x00\x00\x00\x09\x00\x00\x00\x08\x00\x00\x00\x00\x80\x00\x00\x00"},
	{api.Node{Id: 9, Up: 8, Weight: 1<<32 - 1}, "\x00\x00\x00\x09\x00\x00\x00\x08\x00\x00\x00\x00\xff\xff\xff\xff"},
	{api.Node{Id: 9, Up: 8, Weight: 1 << 32}, "\x00\x00\x00\x09\x00\x00\x00\x08\x00\x00\x00\x01\x00\x00\x00\x00"},
	{api.Node{Id: 9, Up: 8, Weight: -1 << 31}, "\x00\x00\x00\x09\x00\x00\x00\x08\xff\xff\xff\xff\x80\x00\x00\x00"},
	{api.Node{Id: 9, Up: 8, Weight: -1<<31 - 1}, "\x00\x00\x00\x09\x00\x00\x00\x08\xff\xff\xff\xff\x7f\xff\xff\xff"},
	{api.Node{Id: 9, Up: 8, Weight: -1 << 32}, "\x00\x00\x00\x09\x00\x00\x00\x08\xff\xff\xff\xff\x00\x00\x00\x00"},
	{api.Node{Id: 9, Up: 8, Weight: -1<<32 - 1}, "\x00\x00\x00\x09\x00\x00\x00\x08\xff\xff\xff\xfe\xff\xff\xff\xff"},
}

// fours are numbers and their four bytes.
var fours = []struct {
	n uint32
	s string
}{
	{0, "\x00\x00\x00\x00"},
	{1, "\x00\x00\x00\x01"},
	{255, "\x00\x00\x00\xff"},
	{256, "\x00\x00\x01\x00"},
	{258, "\x00\x00\x01\x02"},
	{1<<16 - 1, "\x00\x00\xff\xff"},
	{1 << 16, "\x00\x01\x00\x00"},
	{1<<24 - 1, "\x00\xff\xff\xff"},
	{1 << 24, "\x01\x00\x00\x00"},
	{0x01020304, "\x01\x02\x03\x04"},
	{0x41424344, "ABCD"},
	{0x54524545, "TREE"},
	{0xe68091c3, "\xe6\x80\x91\xc3"},
	{lastId, "\x7f\xff\xff\xff"},
	{1 << 31, "\x80\x00\x00\x00"},
	{1<<32 - 2, "\xff\xff\xff\xfe"},
	{1<<32 - 1, "\xff\xff\xff\xff"},
}

func wantPrint(t *testing.T, x api.Node, s string, is bool) {
	t.Helper()
	if got, ok := Print(x); got != s || ok != is {
		t.Errorf("Print of %+v: got %x, %t, want %x, %t", x, got, ok, s, is)
	}
}

func wantParse(t *testing.T, s string, x api.Node, is bool) {
	t.Helper()
	if got, ok := Parse(s); got != x || ok != is {
		t.Errorf("Parse of %.64x (%d bytes): got %+v, %t, want %+v, %t", s, len(s), got, ok, x, is)
	}
}

// wantNone: no node's record is s.
func wantNone(t *testing.T, s string) {
	t.Helper()
	wantParse(t, s, api.Node{}, false)
}

// P12.1: numbers in four bytes.
func TestFour(t *testing.T) {
	for _, c := range fours {
		if got := Four(c.n); got != c.s {
			t.Errorf("Four(%#x): got %x, want %x", c.n, got, c.s)
		}
	}
}

// P12.1: each bit of a number has a place of its own, the highest one ahead.
func TestFourBitByBit(t *testing.T) {
	for bit := range 32 {
		want := make([]byte, 4)
		want[3-bit/8] = 1 << (bit % 8)
		if got := Four(1 << bit); got != string(want) {
			t.Errorf("Four(2^%d): got %x, want %x", bit, got, want)
		}
	}
}

// P12.1: nodes that have records.
func TestPrint(t *testing.T) {
	for _, c := range known {
		if len(c.s) != 16 {
			t.Fatalf("a record of %d bytes is wanted of %+v", len(c.s), c.x)
		}
		wantPrint(t, c.x, c.s, true)
	}
}

// P12.1: nodes that have no record: each field one past its ends, far past them, and where a part of its bits would do.
func TestPrintNone(t *testing.T) {
	ids := []int{-1, -2, lastId + 1, 1 << 32, 1<<32 + 1, 1<<32 - 1, -1 << 31, -1 << 32, math.MaxInt, math.MinInt, math.MinInt + 1}
	for _, id := range ids {
		for _, up := range []int{-1, 0, 7, lastId} {
			wantPrint(t, api.Node{Id: id, Up: up}, "", false)
		}
	}
	ups := []int{-2, -3, lastId + 1, 1 << 32, 1<<32 - 1, 1<<32 - 2, 1<<32 + 1, -1 << 31, -1 << 32, -1<<32 - 1, math.MaxInt, math.MinInt, math.MinInt + 1}
	for _, up := range ups {
		for _, id := range []int{0, 1, 7, lastId} {
			wantPrint(t, api.Node{Id: id, Up: up}, "", false)
		}
	}
	weights := []int{heaviest + 1, -heaviest - 1, 2 * heaviest, -2 * heaviest, math.MaxInt, math.MinInt, math.MaxInt - heaviest, math.MinInt + heaviest}
	for _, w := range weights {
		for _, up := range []int{-1, 0, lastId} {
			wantPrint(t, api.Node{Id: 7, Up: up, Weight: w}, "", false)
		}
	}
}

// P12.1: a node that is its own parent has no record.
func TestPrintOwnParent(t *testing.T) {
	for _, id := range []int{-1, 0, 1, 2, 255, 256, lastId - 1, lastId, lastId + 1, math.MaxInt, math.MinInt} {
		wantPrint(t, api.Node{Id: id, Up: id}, "", false)
		wantPrint(t, api.Node{Id: id, Up: id, Weight: heaviest}, "", false)
	}
}

// P12.1: where nothing is right, there is no record either.
func TestPrintAllWrong(t *testing.T) {
	ends := []int{math.MinInt, math.MaxInt}
	for _, id := range ends {
		for _, up := range ends {
			for _, w := range ends {
				wantPrint(t, api.Node{Id: id, Up: up, Weight: w}, "", false)
			}
		}
	}
}

// P12.2: the number of four bytes, and of four with more behind them.
func TestReadFour(t *testing.T) {
	for _, c := range fours {
		for _, more := range []string{"", "x", "\x00", "\xff", all, strings.Repeat("more", 1000)} {
			if got := ReadFour(c.s + more); got != c.n {
				t.Errorf("ReadFour of %x with %d bytes behind: got %#x, want %#x", c.s, len(more), got, c.n)
			}
		}
	}
}

// P12.2: fewer than four bytes are no number.
func TestReadFewer(t *testing.T) {
	for _, s := range []string{"", "\x00", "\x01", "\xff", "a", "ab", "\xff\xff", "abc", "\x00\x00\x00", "\x00\x00\x01", "\xff\xff\xff", "\u6811"} {
		if got := ReadFour(s); got != 0 {
			t.Errorf("ReadFour of %x: got %#x, want 0", s, got)
		}
	}
}

// P12.2: nodes whose records are known.
func TestParse(t *testing.T) {
	for _, c := range known {
		wantParse(t, c.s, c.x, true)
	}
}

// P12.2: bytes of any other length are no record: too few, too many, two records.
func TestParseLengths(t *testing.T) {
	for _, c := range known {
		for n := range 16 {
			wantNone(t, c.s[:n])
			wantNone(t, c.s[16-n:])
			if n > 0 {
				wantNone(t, c.s+c.s[:n])
				wantNone(t, c.s[16-n:]+c.s)
			}
		}
		for _, n := range []int{1, 2, 4, 8, 16, 1 << 20} {
			wantNone(t, c.s+strings.Repeat("\x00", n))
			wantNone(t, c.s+strings.Repeat("\xff", n))
		}
		wantNone(t, c.s+c.s)
	}
	for n := range 300 {
		if n != 16 {
			wantNone(t, strings.Repeat("\x00", n))
			wantNone(t, strings.Repeat("\x01", n))
		}
	}
}

// P12.2: sixteen bytes that would be a node without a record.
func TestParseNone(t *testing.T) {
	const (
		seven = "\x00\x00\x00\x07"
		none  = "\xff\xff\xff\xff"
		zeros = "\x00\x00\x00\x00\x00\x00\x00\x00"
	)
	for _, four := range []string{"\x80\x00\x00\x00", "\x80\x00\x00\x07", "\xff\x00\x00\x00", "\xff\xff\xff\xfe", none} {
		wantNone(t, four+none+zeros)
		wantNone(t, four+seven+zeros)
		if four != none {
			wantNone(t, seven+four+zeros)
			wantNone(t, "\x7f\xff\xff\xff"+four+zeros)
		}
		wantNone(t, four+four+zeros)
	}
	for _, four := range []string{"\x00\x00\x00\x00", seven, "\x00\x00\x01\x00", "\x7f\xff\xff\xfe", "\x7f\xff\xff\xff"} {
		wantNone(t, four+four+zeros)
		wantNone(t, four+four+all)
	}
	for _, eight := range []string{
		"\x00\x00\x01\x00\x00\x00\x00\x01", "\x00\x00\x02\x00\x00\x00\x00\x00", "\x00\x01\x00\x00\x00\x00\x00\x00", "\x01\x00\x00\x00\x00\x00\x00\x00",
		"\x7f\xff\xff\xff\xff\xff\xff\xff", "\x80\x00\x00\x00\x00\x00\x00\x00", "\x80\x00\x00\x00\x00\x00\x00\x05", "\xfe\xff\xff\xff\xff\xff\xff\xff",
		"\xff\xff\xfe\xff\xff\xff\xff\xff", "\xff\xff\xfe\x00\x00\x00\x00\x00", "\x00\xff\xff\xff\xff\xff\xff\xff", "\x00\x00\x01\x01\x00\x00\x00\x00",
	} {
		wantNone(t, seven+none+eight)
		wantNone(t, seven+"\x00\x00\x00\x00"+eight)
	}
	wantNone(t, all+all)
	wantNone(t, zeros+zeros)
}
