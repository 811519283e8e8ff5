package crc

import (
	"hash/crc32"
	"math/rand"
	"strings"
	"testing"
	"unicode/utf8"
)

// longest is how long a text goes which the tests take whole: many thousand bytes, and not of a round number.
const longest = 1<<18 + 77

func wantSum(t *testing.T, s string, want uint32) {
	t.Helper()
	if got := Sum(s); got != want {
		t.Fatalf("Sum of %d bytes, %.40x: got %08x, want %08x", len(s), s, got, want)
	}
}

// wantLibrary holds the sum of s against the one of Go's own library, which goes by tables.
func wantLibrary(t *testing.T, s string) {
	t.Helper()
	wantSum(t, s, crc32.ChecksumIEEE([]byte(s)))
}

// someBytes answers n bytes, the same ones for the same seed.
func someBytes(seed int64, n int) []byte {
	l := make([]byte, n)
	rand.New(rand.NewSource(seed)).Read(l)
	return l
}

// P11.1: sums that are known from elsewhere, the chapter's example first.
func TestKnown(t *testing.T) {
	tests := []struct {
		s    string
		want uint32
	}{
		{"123456789", 0xcbf43926},
		{"", 0},
		{"\x00", 0xd202ef8d},
		{"\xff", 0xff000000},
		{"a", 0xe8b7be43},
		{"abc", 0x352441c2},
		{"\x00\x00\x00\x00", 0x2144df1c},
		{"\xff\xff\xff\xff", 0xffffffff},
		{"The quick brown fox jumps over the lazy dog", 0x414fa339},
		{strings.Repeat("\x00", 32), 0x190a55ad},
		{strings.Repeat("\xff", 32), 0xff6cab0b},
	}
	for _, c := range tests {
		wantSum(t, c.s, c.want)
	}
}

// P11.1: each byte alone, by the chapter's own words, a bit at a time.
func TestEachByte(t *testing.T) {
	seen := map[uint32]bool{}
	for b := range 256 {
		n := uint32(1<<32-1) ^ uint32(b)
		for range 8 {
			low := n % 2
			n /= 2
			if low == 1 {
				n ^= 0xedb88320
			}
		}
		s := string([]byte{byte(b)})
		wantSum(t, s, 1<<32-1-n)
		wantLibrary(t, s)
		seen[Sum(s)] = true
	}
	if len(seen) != 256 {
		t.Errorf("256 bytes alone have %d sums", len(seen))
	}
}

// P11.1: one byte behind each other one.
func TestEachTwoBytes(t *testing.T) {
	for b := range 1 << 16 {
		wantLibrary(t, string([]byte{byte(b >> 8), byte(b)}))
	}
}

// P11.1: bytes of 0 alone, which a sum that began with 0 would not tell apart, and of ff alone.
func TestOneByteAgainAndAgain(t *testing.T) {
	for _, b := range []string{"\x00", "\xff", "\x01", "\x80"} {
		seen := map[uint32]int{}
		for n := range 300 {
			s := strings.Repeat(b, n)
			wantLibrary(t, s)
			if m, was := seen[Sum(s)]; was {
				t.Errorf("%d and %d bytes %x have one sum", m, n, b)
			}
			seen[Sum(s)] = n
		}
		wantLibrary(t, strings.Repeat(b, 4095))
		wantLibrary(t, strings.Repeat(b, longest))
	}
}

// P11.1: bytes count, not the runes that they may be: texts in UTF-8, and bytes that are none.
func TestNoText(t *testing.T) {
	tests := []string{
		"\u00e9", "na\u00efve", "\u6811", "\U0001f333", "\u0000\u007f\u0080", "\ufffd", "\ufeffx",
		"\x80", "\xbf", "\xc3", "\xc3\x28", "\xc0\x80", "\xe6\xa0", "\xed\xa0\x80", "\xf0\x9f\x8c", "\xf4\x90\x80\x80", "\xff\xfe", "a\xffb", "\xef\xbf",
	}
	seen := map[uint32]string{}
	for _, s := range tests {
		wantLibrary(t, s)
		if old, was := seen[Sum(s)]; was {
			t.Errorf("%x and %x have one sum", old, s)
		}
		seen[Sum(s)] = s
	}
	// Three bytes that are no text, and the one rune that a text's reader makes of each of them.
	if Sum("\x80\x81\x82") == Sum("\ufffd\ufffd\ufffd") {
		t.Error("bytes that are no text are summed as runes")
	}
}

// P11.1: bytes of any kind, of all lengths up to some hundred.
func TestAllLengths(t *testing.T) {
	for n := range 400 {
		for seed := range int64(5) {
			wantLibrary(t, string(someBytes(seed, n)))
		}
	}
}

// P11.1: long texts, of any bytes, of words, and all the bytes in a row.
func TestLong(t *testing.T) {
	for _, n := range []int{4096, 65535, 65536, 65537, longest} {
		l := someBytes(int64(n), n)
		if utf8.Valid(l) {
			t.Fatalf("%d bytes are a text by chance", n)
		}
		wantLibrary(t, string(l))
	}
	wantLibrary(t, strings.Repeat("a tree, a root, a way. ", 10000))
	row := make([]byte, longest)
	for i := range row {
		row[i] = byte(i)
	}
	wantLibrary(t, string(row))
}

// P11.1: a call hangs on its argument alone: neither on earlier calls nor on where the bytes lie.
func TestAgain(t *testing.T) {
	all := string(someBytes(1, 5000))
	first := make([]uint32, 0, 100)
	for i := range 100 {
		first = append(first, Sum(all[i:i*50]))
	}
	for i := 99; i >= 0; i-- {
		wantSum(t, all[i:i*50], first[i])
		wantSum(t, string([]byte(all[i:i*50])), first[i])
	}
	wantSum(t, "", 0)
}
