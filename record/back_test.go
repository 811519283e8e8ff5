package record

import (
	"encoding/binary"
	"math"
	"math/rand"
	"testing"

	"arboretum/api"
)

// fits is the chapter's own sentence about which nodes have a record.
func fits(x api.Node) bool {
	switch {
	case x.Id < 0 || x.Id > lastId:
		return false
	case x.Up < -1 || x.Up > lastId || x.Up == x.Id:
		return false
	}
	return x.Weight >= -heaviest && x.Weight <= heaviest
}

// thereAndBack: x is read from its record, if it has one, and is the same bytes as by Go's own library.
func thereAndBack(t *testing.T, x api.Node) {
	t.Helper()
	s, ok := Print(x)
	if ok != fits(x) {
		t.Fatalf("Print of %+v: got %x, %t", x, s, ok)
	}
	if !ok {
		wantPrint(t, x, "", false)
		return
	}
	b := binary.BigEndian.AppendUint32(nil, uint32(x.Id))
	b = binary.BigEndian.AppendUint32(b, uint32(x.Up))
	b = binary.BigEndian.AppendUint64(b, uint64(x.Weight))
	wantPrint(t, x, string(b), true)
	wantParse(t, s, x, true)
}

// backAndThere: if s is a record, it is what is printed of the node that is read from it; it tells whether it is one.
func backAndThere(t *testing.T, s string) bool {
	t.Helper()
	x, ok := Parse(s)
	if !ok {
		wantNone(t, s)
		if len(s) == 16 && fits(byLibrary(s)) {
			t.Fatalf("Parse of %x: %+v isn't read", s, byLibrary(s))
		}
		return false
	}
	if !fits(x) {
		t.Fatalf("Parse of %x: got %+v, which has no record", s, x)
	}
	wantPrint(t, x, s, true)
	return true
}

// byLibrary answers what sixteen bytes are by Go's own library: an Up whose bytes are all ff is -1.
func byLibrary(s string) api.Node {
	up := int(binary.BigEndian.Uint32([]byte(s[4:])))
	if up == math.MaxUint32 {
		up = -1
	}
	return api.Node{
		Id:     int(binary.BigEndian.Uint32([]byte(s))),
		Up:     up,
		Weight: int(int64(binary.BigEndian.Uint64([]byte(s[8:])))),
	}
}

// P12.3: numbers go there and back, those of every byte at every place and any others.
func TestFoursThereAndBack(t *testing.T) {
	r := rand.New(rand.NewSource(1))
	var l []uint32
	for b := range uint32(256) {
		l = append(l, b, b<<8, b<<16, b<<24, ^b, ^(b << 24), b*0x01010101)
	}
	for range 100000 {
		l = append(l, r.Uint32())
	}
	for _, n := range l {
		s := Four(n)
		if len(s) != 4 || ReadFour(s) != n || Four(ReadFour(s)) != s || s != string(binary.BigEndian.AppendUint32(nil, n)) {
			t.Fatalf("%#x: Four %x, back %#x", n, s, ReadFour(s))
		}
	}
}

// P12.3: nodes at all ends of their fields together, those with a record and those without.
func TestEndsThereAndBack(t *testing.T) {
	ids := []int{math.MinInt, -1 << 32, -1 << 31, -2, -1, 0, 1, 2, 127, 128, 255, 256, lastId - 1, lastId, lastId + 1, 1<<32 - 2, 1<<32 - 1, 1 << 32, 1<<32 + 1, math.MaxInt}
	weights := []int{math.MinInt, math.MinInt + 1, -heaviest - 1, -heaviest, 1 - heaviest, -1 << 32, -1 << 31, -256, -1, 0, 1, 255, 1 << 31, 1 << 32, heaviest - 1, heaviest, heaviest + 1, math.MaxInt - 1, math.MaxInt}
	for _, id := range ids {
		for _, up := range ids {
			for _, w := range weights {
				thereAndBack(t, api.Node{Id: id, Up: up, Weight: w})
			}
		}
	}
}

// P12.3: nodes of any numbers that have records.
func TestNodesThereAndBack(t *testing.T) {
	r := rand.New(rand.NewSource(2))
	for range 200000 {
		x := api.Node{
			Id:     r.Intn(lastId+1) >> r.Intn(32),
			Up:     r.Intn(lastId+2)>>r.Intn(32) - 1,
			Weight: (r.Intn(2*heaviest+1) - heaviest) >> r.Intn(42),
		}
		thereAndBack(t, x)
	}
}

// P12.3: nodes of any numbers at all, most of which have none.
func TestAnyNodes(t *testing.T) {
	r := rand.New(rand.NewSource(3))
	for range 200000 {
		thereAndBack(t, api.Node{Id: anyNumber(r), Up: anyNumber(r), Weight: anyNumber(r)})
	}
}

// anyNumber answers a number of any length, of either sign.
func anyNumber(r *rand.Rand) int {
	return int(r.Uint64()) >> r.Intn(64)
}

// P12.3: sixteen bytes of any kind; those that are records are printed again.
func TestBytesBackAndThere(t *testing.T) {
	r := rand.New(rand.NewSource(4))
	records := 0
	for range 200000 {
		if backAndThere(t, anyFour(r)+anyFour(r)+anyFour(r)+anyFour(r)) {
			records++
		}
	}
	if records < 10000 || records > 190000 {
		t.Errorf("%d of 200000 were records", records)
	}
}

// anyFour answers four bytes: any, or some that stand at an end of something.
func anyFour(r *rand.Rand) string {
	ends := []string{
		"\x00\x00\x00\x00", "\x00\x00\x00\x01", "\x00\x00\x00\xff", "\x00\x00\x01\x00", "\x7f\xff\xff\xff",
		"\x80\x00\x00\x00", "\xff\xff\xfe\xff", "\xff\xff\xff\x00", "\xff\xff\xff\xfe", "\xff\xff\xff\xff",
	}
	if n := r.Intn(2 * len(ends)); n < len(ends) {
		return ends[n]
	}
	b := make([]byte, 4)
	r.Read(b)
	return string(b)
}

// P12.3: bytes of other lengths than a record's are none, whatever they are.
func TestOtherLengths(t *testing.T) {
	r := rand.New(rand.NewSource(5))
	for n := range 100 {
		for range 50 {
			b := make([]byte, n)
			r.Read(b)
			if backAndThere(t, string(b)) && n != 16 {
				t.Fatalf("%d bytes are a record", n)
			}
		}
	}
}

// P12.3: every bit of a record turned, and every byte another one: none but the bytes of one node's record are read as that node.
func TestNeighbours(t *testing.T) {
	for _, c := range known {
		for at := range 16 {
			for change := 1; change < 256; change++ {
				b := []byte(c.s)
				b[at] ^= byte(change)
				if backAndThere(t, string(b)) {
					if x, _ := Parse(string(b)); x == c.x {
						t.Fatalf("%x and %x are both read as %+v", b, c.s, x)
					}
				}
			}
		}
	}
}
