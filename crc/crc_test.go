package crc

import (
	"hash/crc32"
	"math"
	"math/bits"
	"strings"
	"testing"
	"unsafe"
)

// told answers the sum as the document tells it, bit by bit.
func told(s string) uint32 {
	n := uint32(0xffffffff)
	for _, b := range []byte(s) {
		n ^= uint32(b)
		for range 8 {
			odd := n%2 == 1
			n /= 2
			if odd {
				n ^= 0xedb88320
			}
		}
	}
	return n ^ 0xffffffff
}

// rolled answers bytes that look like no others, always the same ones of a seed.
func rolled(seed uint32, length int) string {
	all := make([]byte, length)
	for i := range all {
		seed = seed*1664525 + 1013904223
		all[i] = byte(seed >> 24)
	}
	return string(all)
}

// texts are bytes of many lengths: none, one, alike ones, text, and bytes of no text.
func texts() []string {
	l := []string{"", "\x00", "\xff", "a", "abc", "123456789", "CHAIN1\x40", "grüß", "\x00\x00\x00\x00", "\xff\xff\xff\xff"}
	for _, length := range []int{2, 3, 4, 5, 7, 8, 16, 17, 31, 32, 33, 64, 257} {
		l = append(l, strings.Repeat("\x00", length), strings.Repeat("\xff", length), rolled(uint32(length), length))
	}
	return l
}

// sums are some that bytes may have.
func sums() []uint32 {
	l := []uint32{0, 1, 2, 15, 16, 255, 256, 0x7fffffff, 0xcbf43926, 0xedb88320, 0xfffffffe, math.MaxUint32}
	for bit := range 32 {
		l = append(l, 1<<bit, ^uint32(1<<bit))
	}
	return l
}

// TestOf: P3.1, sums as they are written down.
func TestOf(t *testing.T) {
	for _, c := range []struct {
		s    string
		want uint32
	}{
		{"123456789", 0xcbf43926},
		{"", 0},
		{"\x00", 0xd202ef8d},
		{"\xff", 0xff000000},
		{"a", 0xe8b7be43},
		{"abc", 0x352441c2},
		{"\x00\x00\x00\x00", 0x2144df1c},
		{"\xff\xff\xff\xff", 0xffffffff},
		{"The quick brown fox jumps over the lazy dog", 0x414fa339},
	} {
		if got := Of(c.s); got != c.want {
			t.Errorf("P3.1: Of(%q) = %08x, want %08x", c.s, got, c.want)
		}
	}
}

// TestOfTold: P3.1, the sums of every byte, of every two, and of texts of many lengths.
func TestOfTold(t *testing.T) {
	try := func(s string) {
		if got, want := Of(s), told(s); got != want {
			t.Errorf("P3.1: Of(%x) = %08x, want %08x", s, got, want)
		}
		if got, want := Of(s), crc32.ChecksumIEEE([]byte(s)); got != want {
			t.Errorf("P3.1: Of(%x) = %08x, want that of the library, %08x", s, got, want)
		}
	}
	for first := range 256 {
		try(string([]byte{byte(first)}))
		for second := range 256 {
			try(string([]byte{byte(first), byte(second)}))
		}
	}
	for _, s := range texts() {
		try(s)
	}
	try(rolled(7, 1<<20))
}

// TestMore: P3.1, what comes behind, wherever bytes are cut in two, and in three.
func TestMore(t *testing.T) {
	for _, s := range texts() {
		want := told(s)
		for at := range len(s) + 1 {
			first := Of(s[:at])
			if got := More(first, s[at:]); got != want {
				t.Errorf("P3.1: %x cut at %d has the sum %08x, want %08x", s, at, got, want)
			}
			half := (at + len(s)) / 2
			if got := More(More(first, s[at:half]), s[half:]); got != want {
				t.Errorf("P3.1: %x cut at %d and %d has the sum %08x, want %08x", s, at, half, got, want)
			}
		}
	}
}

// TestMoreOfAny: P3.1, of any sum: all of them are sums of some bytes.
func TestMoreOfAny(t *testing.T) {
	for _, sum := range sums() {
		if got := More(sum, ""); got != sum {
			t.Errorf("P3.1: More(%08x, none) = %08x", sum, got)
		}
		for _, s := range texts() {
			if got, want := More(sum, s), crc32.Update(sum, crc32.IEEETable, []byte(s)); got != want {
				t.Errorf("P3.1: More(%08x, %x) = %08x, want %08x", sum, s, got, want)
			}
		}
	}
}

// behind answers s, and behind it the bytes of a sum, the lowest first.
func behind(s string, sum uint32) string {
	return s + string([]byte{byte(sum), byte(sum >> 8), byte(sum >> 16), byte(sum >> 24)})
}

// TestClose: P3.2, the bytes with their sum behind, the lowest first.
func TestClose(t *testing.T) {
	for _, c := range []struct{ s, want string }{
		{"", "\x00\x00\x00\x00"},
		{"123456789", "123456789\x26\x39\xf4\xcb"},
		{"a", "a\x43\xbe\xb7\xe8"},
		{"\xff", "\xff\x00\x00\x00\xff"},
		{"\x00\x00\x00\x00", "\x00\x00\x00\x00\x1c\xdf\x44\x21"},
		{"\xff\xff\xff\xff", "\xff\xff\xff\xff\xff\xff\xff\xff"},
	} {
		if got := Close(c.s); got != c.want {
			t.Errorf("P3.2: Close(%x) = %x, want %x", c.s, got, c.want)
		}
	}
	for _, s := range texts() {
		want := behind(s, told(s))
		if got := Close(s); got != want {
			t.Errorf("P3.2: Close(%x) = %x, want %x", s, got, want)
		}
	}
}

// TestOpen: P3.2, what is ahead of its sum.
func TestOpen(t *testing.T) {
	for _, c := range []struct{ s, want string }{
		{"\x00\x00\x00\x00", ""},
		{"123456789\x26\x39\xf4\xcb", "123456789"},
		{"\xff\x00\x00\x00\xff", "\xff"},
		{"\xff\xff\xff\xff\xff\xff\xff\xff", "\xff\xff\xff\xff"},
		{"a\x43\xbe\xb7\xe8", "a"},
	} {
		if got, ok := Open(c.s); !ok || got != c.want {
			t.Errorf("P3.2: Open(%x) = %x, %v, want %x", c.s, got, ok, c.want)
		}
	}
}

func notOpened(t *testing.T, promise, s string) {
	t.Helper()
	if got, ok := Open(s); ok || got != "" {
		t.Errorf("%s: Open(%x) = %x, %v, want none", promise, s, got, ok)
	}
}

// TestOpenOthers: P3.2, too few bytes, and last ones that are not the sum.
func TestOpenOthers(t *testing.T) {
	for _, s := range []string{
		"", "\x00", "\x00\x00", "\x00\x00\x00", "abc",
		"abcd", "\x00\x00\x00\x01", "\xff\xff\xff\xff", // of none the sum is 0
		"\x00\x00\x00\x00\x00", // of a byte 0 it is not
		"123456789", "123456789\xcb\xf4\x39\x26", "123456789\x26\x39\xf4", "123456789\x26\x39\xf4\xcb\x00",
		"123456789\xd9\xc6\x0b\x34",                     // all bits of the sum turned
		"123456788\x26\x39\xf4\xcb", "\x26\x39\xf4\xcb", // the sum of others, or of none
		"\x26\x39\xf4\xcb123456789",
		"a\xe8\xb7\xbe\x43",
	} {
		notOpened(t, "P3.2", s)
	}
}

// opens fails the test, if s, where it is closed, does not open to ahead, or else opens.
func opens(t *testing.T, s string, closed bool, ahead string) {
	t.Helper()
	want := ""
	if closed {
		want = ahead
	}
	if got, ok := Open(s); ok != closed || got != want {
		t.Errorf("P3.2: Open(%x) = %x, %v, want %x, %v", s, got, ok, want, closed)
	}
}

// TestOpenCut: P3.2, what was closed, ending too early, beginning too late, or going on: it opens just where its end is its sum.
func TestOpenCut(t *testing.T) {
	try := func(s string) {
		at := max(len(s)-4, 0)
		opens(t, s, s == behind(s[:at], told(s[:at])), s[:at])
	}
	for _, s := range texts() {
		closed := Close(s)
		for at := range len(closed) + 1 {
			try(closed[:at])
			try(closed[at:])
		}
		try(closed + "\x00")
		try("\x00" + closed)
		try(closed + closed)
	}
}

// TestOpenAnySum: P3.2, of the sums that may stand behind, just one is theirs.
func TestOpenAnySum(t *testing.T) {
	for _, s := range texts() {
		for _, sum := range sums() {
			opens(t, behind(s, sum), sum == told(s), s)
		}
	}
}

// TestBack: P3.3, what is closed is opened again, also what is closed several times.
func TestBack(t *testing.T) {
	for _, s := range append(texts(), rolled(11, 1<<20)) {
		once := Close(s)
		if got, ok := Open(once); !ok || got != s {
			t.Errorf("P3.3: %x comes back as %x, %v", s, got, ok)
		}
		if got, ok := Open(Close(once)); !ok || got != once {
			t.Errorf("P3.3: %x comes back as %x, %v", once, got, ok)
		}
	}
}

// turned answers s with those bits turned that the pattern has, from a bit on; of a byte the lowest bit is the first.
func turned(s string, from int, pattern uint64) string {
	all := []byte(s)
	for i := range 64 {
		if pattern>>i&1 == 1 {
			all[(from+i)/8] ^= 1 << ((from + i) % 8)
		}
	}
	return string(all)
}

// bursts are patterns of bits within 32 neighbouring ones, the first one among them.
func bursts() []uint64 {
	var l []uint64
	seed := uint32(1)
	for width := 1; width <= 32; width++ {
		last := uint64(1) << (width - 1)
		l = append(l, 1|last, last<<1-1)
		for range 6 {
			seed = seed*1664525 + 1013904223
			l = append(l, uint64(seed)%last|1|last)
		}
	}
	return append(l, 0xedb88321, 0x82608edb, 0xdb710641)
}

// TestTurned: P3.3, with bits turned within 32 neighbouring ones, wherever these are, nothing is opened.
func TestTurned(t *testing.T) {
	for _, s := range []string{"", "a", "\x00\x00\x00\x00", "123456789", rolled(3, 41), strings.Repeat("\xff", 17), Close("abc")} {
		closed := Close(s)
		for _, pattern := range bursts() {
			for from := 0; from+bits.Len64(pattern) <= 8*len(closed); from++ {
				notOpened(t, "P3.3", turned(closed, from, pattern))
			}
		}
	}
}

// TestTurnedAll: P3.3, at one place all patterns of 16 bits, and of the outer bits of 32.
func TestTurnedAll(t *testing.T) {
	closed := Close("neighbour")
	for _, from := range []int{0, 29, 56, 72} {
		for pattern := uint64(1); pattern < 1<<16; pattern++ {
			notOpened(t, "P3.3", turned(closed, from, pattern))
			notOpened(t, "P3.3", turned(closed, from, pattern&0xff|pattern>>8<<24))
		}
	}
}

// TestTurnedBeyond: P3.2, bits within 33 neighbouring ones that leave the sum as it is: it alone decides.
func TestTurnedBeyond(t *testing.T) {
	const same = 0xedb88320<<1 | 1
	for _, s := range []string{"123456789", rolled(5, 30)} {
		closed := Close(s)
		for from := 0; from+33 <= 8*len(closed); from++ {
			other := turned(closed, from, same)
			if got, ok := Open(other); !ok || got != other[:len(s)] {
				t.Errorf("P3.2: Open(%x) = %x, %v, want %x", other, got, ok, other[:len(s)])
			}
		}
	}
}

// TestOwn: what is opened is memory of its own.
func TestOwn(t *testing.T) {
	given := []byte(Close("abcdef"))
	opened, ok := Open(unsafe.String(&given[0], len(given)))
	clear(given)
	if !ok || opened != "abcdef" {
		t.Errorf("what is opened hangs on what was given: %q, %v", opened, ok)
	}
	bare := []byte("abcdef")
	closed := Close(unsafe.String(&bare[0], len(bare)))
	clear(bare)
	if opened, ok := Open(closed); !ok || opened != "abcdef" {
		t.Errorf("what is closed hangs on what was given: %q, %v", opened, ok)
	}
}
