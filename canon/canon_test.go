package canon

import (
	"encoding/binary"
	"fmt"
	"hash/crc32"
	"math/rand"
	"slices"
	"strings"
	"testing"

	"arboretum/api"
)

// known are forests and their bytes, worked out elsewhere.
var known = []struct {
	l []api.Node
	s string
}{
	{nil, "\x00\x00\x00\x0dTREE\x01\x00\x00\x00\x00\x42\xc1\xf1\xb6"},
	{
		[]api.Node{{Id: 0, Up: -1, Weight: 0}},
		"\x00\x00\x00\x1dTREE\x01\x00\x00\x00\x01" +
			"\x00\x00\x00\x00\xff\xff\xff\xff\x00\x00\x00\x00\x00\x00\x00\x00" +
			"\x7d\xcb\xd9\x22",
	},
	{
		[]api.Node{{Id: 1, Up: -1, Weight: -2}},
		"\x00\x00\x00\x1dTREE\x01\x00\x00\x00\x01" +
			"\x00\x00\x00\x01\xff\xff\xff\xff\xff\xff\xff\xff\xff\xff\xff\xfe" +
			"\x1b\x22\x2e\xcc",
	},
	{
		[]api.Node{{Id: 1, Up: 2, Weight: 5}, {Id: 2, Up: -1, Weight: 0}},
		"\x00\x00\x00\x2dTREE\x01\x00\x00\x00\x02" +
			"\x00\x00\x00\x01\x00\x00\x00\x02\x00\x00\x00\x00\x00\x00\x00\x05" +
			"\x00\x00\x00\x02\xff\xff\xff\xff\x00\x00\x00\x00\x00\x00\x00\x00" +
			"\x33\xaf\x68\x4b",
	},
	{
		[]api.Node{{Id: 0, Up: lastId, Weight: -heaviest}, {Id: lastId, Up: -1, Weight: heaviest}},
		"\x00\x00\x00\x2dTREE\x01\x00\x00\x00\x02" +
			"\x00\x00\x00\x00\x7f\xff\xff\xff\xff\xff\xff\x00\x00\x00\x00\x00" +
			"\x7f\xff\xff\xff\xff\xff\xff\xff\x00\x00\x01\x00\x00\x00\x00\x00" +
			"\x77\xd8\x3a\x07",
	},
	{
		[]api.Node{{Id: 3, Up: -1, Weight: 1}, {Id: 5, Up: 7, Weight: 2}, {Id: 7, Up: 3, Weight: -3}, {Id: 9, Up: 7, Weight: 4}},
		"\x00\x00\x00\x4dTREE\x01\x00\x00\x00\x04" +
			"\x00\x00\x00\x03\xff\xff\xff\xff\x00\x00\x00\x00\x00\x00\x00\x01" +
			"\x00\x00\x00\x05\x00\x00\x00\x07\x00\x00\x00\x00\x00\x00\x00\x02" +
			"\x00\x00\x00\x07\x00\x00\x00\x03\xff\xff\xff\xff\xff\xff\xff\xfd" +
			"\x00\x00\x00\x09\x00\x00\x00\x07\x00\x00\x00\x00\x00\x00\x00\x04" +
			"\x57\xd7\xa9\xee",
	},
}

// some answers l as a text, if it is short, and else how long it is.
func some(l []api.Node) string {
	if len(l) > 50 {
		return fmt.Sprintf("%d nodes", len(l))
	}
	return fmt.Sprintf("%+v", l)
}

// byLibrary answers what would be the bytes of l, by Go's own library, whatever they are.
func byLibrary(l []api.Node) string {
	b := append([]byte("TREE\x01"), binary.BigEndian.AppendUint32(nil, uint32(len(l)))...)
	for _, x := range l {
		b = binary.BigEndian.AppendUint32(b, uint32(x.Id))
		b = binary.BigEndian.AppendUint32(b, uint32(x.Up))
		b = binary.BigEndian.AppendUint64(b, uint64(x.Weight))
	}
	return sealed(string(b))
}

// sealed answers s with its length, and that of a sum, ahead, and the sum of all that behind.
func sealed(s string) string {
	return summed(string(binary.BigEndian.AppendUint32(nil, uint32(len(s)+4))) + s)
}

// summed answers s with its sum behind.
func summed(s string) string {
	return string(binary.LittleEndian.AppendUint32([]byte(s), crc32.ChecksumIEEE([]byte(s))))
}

func wantPrint(t *testing.T, l []api.Node, s string) {
	t.Helper()
	if got, ok := Print(l); got != s || !ok {
		t.Errorf("Print of %s: got %.200x, %t, want %.200x", some(l), got, ok, s)
	}
}

func wantParse(t *testing.T, s string, l []api.Node) {
	t.Helper()
	if got, ok := Parse(s); !slices.Equal(got, l) || !ok {
		t.Errorf("Parse of %.200x: got %s, %t, want %s", s, some(got), ok, some(l))
	}
}

// wantNone: s is no forest's bytes.
func wantNone(t *testing.T, s string) {
	t.Helper()
	if got, ok := Parse(s); len(got) != 0 || ok {
		t.Errorf("Parse of %.200x (%d bytes): got %s, %t, want none", s, len(s), some(got), ok)
	}
}

// P13.1: forests whose bytes are known.
func TestPrint(t *testing.T) {
	for _, c := range known {
		wantPrint(t, c.l, c.s)
		if len(c.s) != 17+16*len(c.l) || byLibrary(c.l) != c.s {
			t.Errorf("wrong bytes are wanted of %s", some(c.l))
		}
	}
}

// P13.1: what stands behind the nodes in their list has no part in their bytes and is not changed, and the bytes are new memory.
func TestPrintSpareRoom(t *testing.T) {
	for _, c := range known {
		long := append(slices.Clone(c.l), api.Node{Id: 1, Up: 1, Weight: 1}, api.Node{Id: -7, Up: -8, Weight: -9})
		was := slices.Clone(long)
		wantPrint(t, long[:len(c.l)], c.s)
		Check(long[:len(c.l)])
		if !slices.Equal(long, was) {
			t.Errorf("what stands behind %s was changed", some(c.l))
		}
	}
	l := []api.Node{alone(1), alone(2)}
	s, _ := Print(l)
	was := strings.Clone(s)
	l[0].Id, l[1].Weight = 0, 7
	if s != was {
		t.Error("bytes changed together with the nodes")
	}
	if again, _ := Print(l); again == was {
		t.Error("other nodes have the same bytes")
	}
}

// P13.1: forests of each length up to some hundred, and longer ones, held against Go's own library.
func TestPrintAny(t *testing.T) {
	r := rand.New(rand.NewSource(3))
	for n := range 300 {
		l := someForest(r, n+1)
		wantPrint(t, l, byLibrary(l))
	}
	for _, n := range []int{4095, 4096, 4097, 1 << 16} {
		l := someForest(r, n)
		wantPrint(t, l, byLibrary(l))
	}
}

// P13.2: forests whose bytes are known.
func TestParse(t *testing.T) {
	for _, c := range known {
		wantParse(t, c.s, c.l)
	}
}

// P13.2: too few bytes, and too many, are none, at either end.
func TestParseLengths(t *testing.T) {
	for _, c := range known {
		for n := range c.s {
			wantNone(t, c.s[:n])
			wantNone(t, c.s[len(c.s)-n:])
			wantNone(t, c.s+c.s[:n+1])
			wantNone(t, c.s[:n]+c.s[n+1:])
			wantNone(t, c.s[:n]+"\x00"+c.s[n:])
		}
		for _, n := range []int{1, 2, 3, 4, 8, 15, 16, 17, 32, 1 << 20} {
			wantNone(t, c.s+strings.Repeat("\x00", n))
			wantNone(t, c.s+strings.Repeat("\xff", n))
		}
	}
	for n := range 200 {
		for _, b := range []string{"\x00", "\xff", "T", "\x01"} {
			wantNone(t, strings.Repeat(b, n))
		}
	}
}

// P13.2: bytes that have their right length ahead and their right sum behind, and yet are none's.
func TestParseSealed(t *testing.T) {
	const (
		root1 = "\x00\x00\x00\x01\xff\xff\xff\xff\x00\x00\x00\x00\x00\x00\x00\x05"
		root2 = "\x00\x00\x00\x02\xff\xff\xff\xff\x00\x00\x00\x00\x00\x00\x00\x06"
		one2  = "\x00\x00\x00\x01\x00\x00\x00\x02\x00\x00\x00\x00\x00\x00\x00\x05"
		two1  = "\x00\x00\x00\x02\x00\x00\x00\x01\x00\x00\x00\x00\x00\x00\x00\x06"
		bad   = "\x00\x00\x00\x03\x00\x00\x00\x03\x00\x00\x00\x00\x00\x00\x00\x00"
		heavy = "\x00\x00\x00\x03\xff\xff\xff\xff\x00\x00\x01\x00\x00\x00\x00\x01"
	)
	wantParse(t, sealed("TREE\x01\x00\x00\x00\x00"), nil)
	wantParse(t, sealed("TREE\x01\x00\x00\x00\x02"+one2+root2), []api.Node{{Id: 1, Up: 2, Weight: 5}, {Id: 2, Up: -1, Weight: 6}})
	for _, s := range []string{
		"", "TREE", "TREE\x01", "TREE\x01\x00\x00\x00",
		"tree\x01\x00\x00\x00\x00", "TREES\x00\x00\x00\x00", "TREE1\x00\x00\x00\x00", "TREE\x00\x00\x00\x00\x00", "TREE\x02\x00\x00\x00\x00", "TREE\xff\x00\x00\x00\x00", "EERT\x01\x00\x00\x00\x00", "TREF\x01\x00\x00\x00\x00",
		"TREE\x01\x00\x00\x00\x01", "TREE\x01\xff\xff\xff\xff", "TREE\x01\x80\x00\x00\x00", "TREE\x01\x00\x10\x00\x00", "TREE\x01\x10\x00\x00\x00",
		"TREE\x01\x00\x00\x00\x00" + root1, "TREE\x01\x00\x00\x00\x02" + root1, "TREE\x01\x01\x00\x00\x00" + root1, "TREE\x01\x10\x00\x00\x01" + root1, "TREE\x01" + root1,
		"TREE\x01\x00\x00\x00\x01" + root1 + root2, "TREE\x01\x00\x00\x00\x03" + root1 + root2,
		"TREE\x01\x00\x00\x00\x01" + root1[1:], "TREE\x01\x00\x00\x00\x01" + root1[:15], "TREE\x01\x00\x00\x00\x01" + root1 + "\x00",
		"TREE\x01\x00\x00\x00\x02" + root2 + root1, "TREE\x01\x00\x00\x00\x02" + root1 + root1, "TREE\x01\x00\x00\x00\x02" + root2 + one2,
		"TREE\x01\x00\x00\x00\x02" + one2 + two1, "TREE\x01\x00\x00\x00\x01" + one2, "TREE\x01\x00\x00\x00\x01" + two1,
		"TREE\x01\x00\x00\x00\x01" + bad, "TREE\x01\x00\x00\x00\x01" + heavy, "TREE\x01\x00\x00\x00\x02" + root1 + bad, "TREE\x01\x00\x00\x00\x03" + root1 + root2 + heavy,
	} {
		wantNone(t, sealed(s))
	}
}

// P13.2: another length ahead, or another sum behind, than what is there has.
func TestParseLengthAndSum(t *testing.T) {
	for _, c := range known {
		rest := c.s[4 : len(c.s)-4]
		right := uint32(len(c.s) - 4)
		for _, n := range []uint32{0, 1, right - 4, right - 1, right, right + 1, right + 4, right + 16, right | 1<<31, right << 8, right << 24, 1<<32 - 1} {
			s := summed(string(binary.BigEndian.AppendUint32(nil, n)) + rest)
			if n == right {
				wantParse(t, s, c.l)
			} else {
				wantNone(t, s)
			}
		}
		ahead := c.s[:len(c.s)-4]
		sum := crc32.ChecksumIEEE([]byte(ahead))
		for _, n := range []uint32{0, 1<<32 - 1, ^sum, sum + 1, sum - 1, crc32.ChecksumIEEE([]byte(rest)), crc32.ChecksumIEEE([]byte(ahead + "\x00\x00\x00\x00"))} {
			wantNone(t, ahead+string(binary.LittleEndian.AppendUint32(nil, n)))
		}
		// The highest byte of the sum first.
		wantNone(t, ahead+string(binary.BigEndian.AppendUint32(nil, sum)))
	}
}

// P13.2: the bytes of as many nodes as may be, and of one more.
func TestParseMost(t *testing.T) {
	l := make([]api.Node, most+1)
	for i := range l {
		l[i] = api.Node{Id: i, Up: i - 1, Weight: heaviest - i}
	}
	wantNone(t, byLibrary(l))
	wantParse(t, byLibrary(l[:most]), l[:most])
	s, _ := Print(l[:most])
	if len(s) != 17+16*most || len(s) > 1<<25 {
		t.Errorf("%d nodes have %d bytes", most, len(s))
	}
	wantParse(t, s, l[:most])
	wantNone(t, s[:len(s)-1])
	wantNone(t, strings.Repeat("\x00", 1<<25))
	wantNone(t, strings.Repeat("\xff", 17+16*(most+1)))
}

// P13.2: the nodes that are answered stand in new memory.
func TestParseNew(t *testing.T) {
	for _, c := range known {
		a, _ := Parse(c.s)
		b, _ := Parse(c.s)
		for i := range a {
			a[i] = api.Node{Id: -1, Up: -1, Weight: -1}
		}
		_ = append(a, alone(1))
		if !slices.Equal(b, c.l) {
			t.Errorf("two lists of %s share memory", some(c.l))
		}
		wantParse(t, c.s, c.l)
	}
}
