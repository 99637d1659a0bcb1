package recfile

import (
	"encoding/binary"
	"hash/crc32"
	"math"
	"slices"
	"strings"
	"testing"
	"unsafe"

	"chainman/api"
	"chainman/frame"
)

// closed answers s, and behind it its sum, as the document tells it: the lowest byte first.
func closed(s string) string {
	return string(binary.LittleEndian.AppendUint32([]byte(s), crc32.ChecksumIEEE([]byte(s))))
}

// head answers a head as the document tells it, whatever the size is.
func head(size byte) string { return closed("CHAIN1" + string([]byte{size})) }

// block answers a block as the document tells it, whatever its records are.
func block(l ...string) string {
	return closed(string([]byte{byte(len(l))}) + strings.Join(l, ""))
}

// blocked answers the blocks of records, four each, the last of what is left.
func blocked(l []string) string {
	s := ""
	for at := 0; at < len(l); at += 4 {
		s += block(l[at:min(at+4, len(l))]...)
	}
	return s
}

// end answers an end as the document tells it, whatever its count is.
func end(count int, sum uint32) string {
	all := binary.BigEndian.AppendUint64([]byte{0}, uint64(count))
	return closed(string(binary.BigEndian.AppendUint32(all, sum)))
}

func sumOf(l []string) uint32 { return crc32.ChecksumIEEE([]byte(strings.Join(l, ""))) }

// endOf answers the end that tells of just these records.
func endOf(l []string) string { return end(len(l), sumOf(l)) }

// file answers the file of records as the document tells it.
func file(size int, l []string) string { return head(byte(size)) + blocked(l) + endOf(l) }

// rolled answers bytes that look like no others, always the same ones of a seed.
func rolled(seed uint32, length int) string {
	all := make([]byte, length)
	for i := range all {
		seed = seed*1664525 + 1013904223
		all[i] = byte(seed >> 24)
	}
	return string(all)
}

// records answers so many records of a size, unlike one another where they may be.
func records(size, n int) []string {
	var l []string
	for i := range n {
		l = append(l, rolled(uint32(1024*size+i), size))
	}
	return l
}

// lists are records of a size, of many counts: rolled ones, and bytes that are all alike.
func lists(size int) [][]string {
	all := [][]string{nil}
	for n := 1; n <= 13; n++ {
		all = append(all, records(size, n))
		for _, b := range []string{"\x00", "\x01", "\x04", "\xff"} {
			all = append(all, slices.Repeat([]string{strings.Repeat(b, size)}, n))
		}
	}
	return append(all, records(size, 16), records(size, 99))
}

// noSizes are numbers that are no record's size.
func noSizes() []int {
	return []int{math.MinInt, math.MinInt + 1, -255, -192, -65, -64, -4, -1, 0, 65, 66, 128, 255, 256, 257, 320, 1 << 32, 1<<32 + 1, 1 << 62, 1<<62 + 1, math.MaxInt - 1, math.MaxInt}
}

// TestPutHead: P6.1, heads as they are written down, of every size, and none of what is no size.
func TestPutHead(t *testing.T) {
	for _, c := range []struct {
		size int
		want string
	}{
		{1, "CHAIN1\x01\x3b\xc9\x55\x43"},
		{16, "CHAIN1\x10\xc9\xe9\xe5\x29"},
		{64, "CHAIN1\x40\x3d\xb8\x8e\x42"},
	} {
		if got, ok := PutHead(c.size); !ok || got != c.want {
			t.Errorf("P6.1: PutHead(%d) = %x, %v, want %x", c.size, got, ok, c.want)
		}
	}
	for size := 1; size <= 64; size++ {
		got, ok := PutHead(size)
		if want := head(byte(size)); !ok || got != want || len(got) != Head {
			t.Errorf("P6.1: PutHead(%d) = %x, %v, want %x", size, got, ok, want)
		}
	}
	for _, size := range noSizes() {
		if got, ok := PutHead(size); ok || got != "" {
			t.Errorf("P6.1: PutHead(%d) = %x, %v, want none", size, got, ok)
		}
	}
}

// TestGetHead: P6.1, the sizes that heads say.
func TestGetHead(t *testing.T) {
	for size := 1; size <= 64; size++ {
		if got, ok := GetHead(head(byte(size))); !ok || got != size {
			t.Errorf("P6.1: GetHead of %d = %d, %v", size, got, ok)
		}
	}
}

func notHead(t *testing.T, s string) {
	t.Helper()
	if got, ok := GetHead(s); ok || got != 0 {
		t.Errorf("P6.1: GetHead(%x) = %d, %v, want none", s, got, ok)
	}
}

// TestGetHeadLengths: P6.1, none of more bytes, or fewer, also where these are closed.
func TestGetHeadLengths(t *testing.T) {
	s := head(16)
	for at := range len(s) {
		notHead(t, s[:at])
		notHead(t, s[at+1:])
	}
	for _, other := range []string{"\x00", "C", s, endOf(nil), rolled(1, 300)} {
		notHead(t, s+other)
		notHead(t, other+s)
	}
	for _, length := range []int{0, 1, 3, 5, 6} {
		notHead(t, closed("CHAIN1"[:length]))
	}
	notHead(t, closed("CHAIN1\x10\x00"))
	notHead(t, closed("CHAIN1\x00\x10"))
	notHead(t, closed(s))
	notHead(t, file(16, nil))
}

// TestGetHeadOthers: P6.1, none of 11 bytes that say no size, or begin otherwise, or whose sum is not theirs.
func TestGetHeadOthers(t *testing.T) {
	notHead(t, head(0))
	for size := 65; size < 256; size++ {
		notHead(t, head(byte(size)))
	}
	for _, name := range []string{"chain1", "CHAIN2", "CHAIN0", "CHAIN\x01", "CHAINS", " CHAIN", "\x00CHAIN", "CHA1IN", "\x10CHAIN", "\x00\x00\x00\x00\x00\x00"} {
		notHead(t, closed(name+"\x10"))
	}
	notHead(t, closed("\x10CHAIN1"))
	notHead(t, "CHAIN1\x10\x00\x00\x00\x00")
	notHead(t, "CHAIN1"+closed("\x10"))
	notHead(t, closed("CHAIN1")+"\x10")
	notHead(t, strings.Repeat("\x00", 11))
	notHead(t, strings.Repeat("\xff", 11))
	for size := 1; size <= 64; size++ {
		for bit := range 8 * Head {
			notHead(t, turned(head(byte(size)), bit, 1))
		}
	}
	s := []byte(head(16))
	slices.Reverse(s[7:])
	notHead(t, string(s))
}

// TestLay: P6.1, files as they are written down.
func TestLay(t *testing.T) {
	for _, c := range []struct {
		size int
		l    []string
		want string
	}{
		{1, nil, "CHAIN1\x01\x3b\xc9\x55\x43" + "\x00\x00\x00\x00\x00\x00\x00\x00\x00\x00\x00\x00\x00\x82\x46\x74\x0f"},
		{2, []string{"ab"}, "CHAIN1\x02\x81\x98\x5c\xda" + "\x01ab\xb7\xe9\xd9\x21" + "\x00\x00\x00\x00\x00\x00\x00\x00\x01\x9e\x83\x48\x6d\x94\x84\x5b\x87"},
		{1, []string{"a", "b", "c", "d", "e"}, "CHAIN1\x01\x3b\xc9\x55\x43" + "\x04abcd\xd0\x43\x64\xff" + "\x01e\x69\xb6\x1a\x65" + "\x00\x00\x00\x00\x00\x00\x00\x00\x05\x85\x87\xd8\x65\x3e\x58\x50\x8d"},
	} {
		got, ok := Lay(c.size, c.l)
		if !ok || got != c.want || got != file(c.size, c.l) {
			t.Errorf("P6.1: Lay(%d, %q) = %x, %v, want %x", c.size, c.l, got, ok, c.want)
		}
	}
}

// TestLayAll: P6.1, files of every size, with none to many blocks, of which the last is full or not.
func TestLayAll(t *testing.T) {
	for size := 1; size <= api.MaxSize; size++ {
		for _, l := range lists(size) {
			if got, ok := Lay(size, l); !ok || got != file(size, l) {
				t.Errorf("P6.1: Lay(%d, %x) = %x, %v, want %x", size, l, got, ok, file(size, l))
			}
		}
		if got, ok := Lay(size, []string{}); !ok || got != file(size, nil) {
			t.Errorf("P6.1: Lay(%d, none) = %x, %v, want %x", size, got, ok, file(size, nil))
		}
	}
	many := records(3, 10001)
	if got, ok := Lay(3, many); !ok || got != file(3, many) {
		t.Errorf("P6.1: Lay of 10001 records = %d bytes, %v, want %d", len(got), ok, len(file(3, many)))
	}
}

func notLaid(t *testing.T, size int, l []string) {
	t.Helper()
	if got, ok := Lay(size, l); ok || got != "" {
		t.Errorf("P6.1: Lay(%d, %d records %.80q) = %x, %v, want none", size, len(l), l, got, ok)
	}
}

// TestLaySizes: P6.1, none of a record of another size, wherever it stands.
func TestLaySizes(t *testing.T) {
	for _, size := range []int{1, 2, 3, 8, 63, 64} {
		for n := 1; n <= 9; n++ {
			for at := range n {
				for _, other := range []int{0, 1, size - 1, size + 1, 2 * size, 64, 65, 256 + size} {
					if other == size {
						continue
					}
					l := records(size, n)
					l[at] = rolled(9, other)
					notLaid(t, size, l)
				}
			}
		}
	}
	notLaid(t, 2, []string{"a", "bcd"}) // as many bytes in all as two have
	notLaid(t, 2, []string{"abc", "d"})
	notLaid(t, 2, []string{"ab", "ab", "ab", "abc", "d"})
	notLaid(t, 1, []string{"ä"}) // one letter, two bytes
}

// TestLayNoSize: P6.1, none of what is no size, of whatever records, also of none.
func TestLayNoSize(t *testing.T) {
	for _, size := range noSizes() {
		notLaid(t, size, nil)
		for _, l := range [][]string{{""}, {"", "", "", "", ""}, {"a"}, {"ab", "cd"}, records(64, 5)} {
			notLaid(t, size, l)
		}
		if 0 < size && size < 1<<16 {
			for n := 1; n <= 5; n++ {
				notLaid(t, size, records(size, n))
			}
		}
	}
}

// TestLength: P6.1, as many bytes as files have.
func TestLength(t *testing.T) {
	for size := 1; size <= api.MaxSize; size++ {
		for _, l := range lists(size) {
			if got, want := Length(size, len(l)), len(file(size, l)); got != want {
				t.Errorf("P6.1: Length(%d, %d) = %d, want %d", size, len(l), got, want)
			}
		}
	}
	for _, c := range []struct{ size, n, want int }{
		{1, 0, 28},
		{64, 0, 28},
		{1, 1, 28 + 6},
		{1, 4, 28 + 9},
		{1, 5, 28 + 9 + 6},
		{64, 3, 28 + 197},
		{64, 4, 28 + 261},
		{17, 4001, 28 + 1000*73 + 22},
		{1, 1<<40 - 1, 28 + 9<<38 - 1},
		{1, 1 << 40, 28 + 9<<38},
		{64, 1<<40 - 3, 28 + 261<<38 - 192},
		{64, 1 << 40, 28 + 261<<38},
	} {
		if got := Length(c.size, c.n); got != c.want {
			t.Errorf("P6.1: Length(%d, %d) = %d, want %d", c.size, c.n, got, c.want)
		}
	}
}

// TestLengthOthers: P6.1, 0 of what is no size, and of what is no count.
func TestLengthOthers(t *testing.T) {
	for _, size := range noSizes() {
		for _, n := range []int{-1, 0, 1, 4, 5, 1 << 40, 1<<40 + 1, math.MaxInt} {
			if got := Length(size, n); got != 0 {
				t.Errorf("P6.1: Length(%d, %d) = %d, want 0", size, n, got)
			}
		}
	}
	for size := 1; size <= api.MaxSize; size++ {
		for _, n := range []int{math.MinInt, math.MinInt + 1, -1 << 40, -5, -4, -3, -1, 1<<40 + 1, 1<<40 + 4, 1 << 62, math.MaxInt - 3, math.MaxInt} {
			if got := Length(size, n); got != 0 {
				t.Errorf("P6.1: Length(%d, %d) = %d, want 0", size, n, got)
			}
		}
	}
}

// TestSum: P6.1, how many there are, and the sum of all, also of records that are not of one size.
func TestSum(t *testing.T) {
	for _, c := range []struct {
		l    []string
		want api.Info
	}{
		{nil, api.Info{}},
		{[]string{}, api.Info{}},
		{[]string{""}, api.Info{Count: 1}},
		{[]string{"", "", ""}, api.Info{Count: 3}},
		{[]string{"123456789"}, api.Info{Count: 1, Sum: 0xcbf43926}},
		{[]string{"123", "456", "789"}, api.Info{Count: 3, Sum: 0xcbf43926}},
		{[]string{"1", "", "2345678", "9"}, api.Info{Count: 4, Sum: 0xcbf43926}},
		{[]string{"789", "456", "123"}, api.Info{Count: 3, Sum: sumOf([]string{"789456123"})}},
		{[]string{strings.Repeat("x", 100), "y"}, api.Info{Count: 2, Sum: sumOf([]string{strings.Repeat("x", 100) + "y"})}},
	} {
		if got := Sum(c.l); got != c.want {
			t.Errorf("P6.1: Sum(%q) = %v, want %v", c.l, got, c.want)
		}
	}
	for size := 1; size <= api.MaxSize; size++ {
		for _, l := range lists(size) {
			if got, want := Sum(l), (api.Info{Count: len(l), Sum: sumOf(l)}); got != want {
				t.Errorf("P6.1: Sum(%x) = %v, want %v", l, got, want)
			}
		}
	}
}

// parses fails the test, if s is not taken for the file of just these records.
func parses(t *testing.T, promise string, size int, s string, l []string) {
	t.Helper()
	want := api.Info{Count: len(l), Sum: sumOf(l)}
	got, x, e := Parse(size, s)
	if e != api.OK || x != want || !slices.Equal(got, l) {
		t.Errorf("%s: Parse(%d, %x) = %x, %v, %d, want %x, %v", promise, size, s, got, x, e, l, want)
	}
}

func notParsed(t *testing.T, promise string, size int, s string) {
	t.Helper()
	if got, x, e := Parse(size, s); e != api.ErrCorrupt || x != (api.Info{}) || len(got) != 0 {
		t.Errorf("%s: Parse(%d, %x) = %x, %v, %d, want none", promise, size, s, got, x, e)
	}
}

// TestParse: P6.2, the records of files, and their end.
func TestParse(t *testing.T) {
	parses(t, "P6.2", 1, "CHAIN1\x01\x3b\xc9\x55\x43\x04abcd\xd0\x43\x64\xff\x01e\x69\xb6\x1a\x65\x00\x00\x00\x00\x00\x00\x00\x00\x05\x85\x87\xd8\x65\x3e\x58\x50\x8d", []string{"a", "b", "c", "d", "e"})
	for size := 1; size <= api.MaxSize; size++ {
		for _, l := range lists(size) {
			parses(t, "P6.2", size, file(size, l), l)
		}
	}
	many := records(3, 10001)
	parses(t, "P6.2", 3, file(3, many), many)
}

// TestParseSizes: P6.2, a file of one size is none of another one, nor of what is no size.
func TestParseSizes(t *testing.T) {
	for _, size := range []int{1, 2, 4, 16, 32, 64} {
		for _, n := range []int{0, 1, 4, 5, 8} {
			s := file(size, records(size, n))
			for other := 1; other <= api.MaxSize; other++ {
				if other != size {
					notParsed(t, "P6.2", other, s)
				}
			}
			for _, other := range noSizes() {
				notParsed(t, "P6.2", other, s)
			}
		}
	}
	for _, size := range noSizes() {
		notParsed(t, "P6.2", size, "")
		notParsed(t, "P6.2", size, head(byte(size))+endOf(nil))
		notParsed(t, "P6.2", size, endOf(nil))
		notParsed(t, "P6.2", size, head(0)+block("", "")+end(2, 0)+endOf(nil))
		if 0 < size && size < 256 {
			notParsed(t, "P6.2", size, file(size, records(size, 5)))
		}
	}
	l := records(2, 6)
	notParsed(t, "P6.2", 1, head(1)+blocked(l)+endOf(l)) // each part of it is right, of its own size
	notParsed(t, "P6.2", 2, head(1)+blocked(l)+endOf(l))
}

// TestParseHeads: P6.2, none of what begins with no head, or with several.
func TestParseHeads(t *testing.T) {
	for _, n := range []int{0, 1, 4, 6} {
		l := records(2, n)
		s := blocked(l) + endOf(l)
		for _, first := range []string{"", "CHAIN1\x02", "CHAIN1\x02\x00\x00\x00\x00", closed("chain1\x02"), head(2) + head(2), head(0), head(66), head(3), " " + head(2)} {
			notParsed(t, "P6.2", 2, first+s)
		}
	}
}

// TestParseBlocks: P6.2, none of blocks that stand otherwise than in a file, though their end tells of them.
func TestParseBlocks(t *testing.T) {
	l := strings.Split("abcdefghi", "")
	for _, blocks := range [][]string{
		{block(l[0]), block(l[1])},
		{block(l[0], l[1]), block(l[2], l[3])},
		{block(l[0], l[1], l[2]), block(l[3])},
		{block(l[0], l[1], l[2]), block(l[3], l[4], l[5], l[6])},
		{block(l[0]), block(l[1], l[2], l[3], l[4])},
		{block(l[0], l[1], l[2], l[3]), block(l[4]), block(l[5])},
		{block(l[0], l[1], l[2], l[3]), block(l[4], l[5], l[6]), block(l[7], l[8])},
		{block(l[0], l[1], l[2], l[3], l[4])},
		{block(l...)},
		{block(), block(l[0])},
		{block(l[0]), block()},
		{block(l[0], l[1], l[2], l[3]), block()},
		{block()},
	} {
		var all []string
		for _, s := range blocks {
			all = append(all, strings.Split(s[1:len(s)-4], "")...)
		}
		notParsed(t, "P6.2", 1, head(1)+strings.Join(blocks, "")+endOf(all))
	}
}

// TestParseEnds: P6.2, none, if the end is not there, or does not tell of just the records ahead.
func TestParseEnds(t *testing.T) {
	for n := range 14 {
		l := records(5, n)
		start := head(5) + blocked(l)
		notParsed(t, "P6.2", 5, start)
		for _, s := range []string{end(n+1, sumOf(l)), end(n-1, sumOf(l)), end(n+4, sumOf(l)), end(n+256, sumOf(l)), end(n, sumOf(l)+1), end(n, sumOf(l)^1<<31), end(n+1, sumOf(l)+1)} {
			notParsed(t, "P6.2", 5, start+s)
			notParsed(t, "P6.2", 5, start+s+endOf(l))
		}
		notParsed(t, "P6.2", 5, start+endOf(records(5, n+1)))
		notParsed(t, "P6.2", 5, start+endOf(append(records(4, 1), l...)))
		if n > 0 {
			notParsed(t, "P6.2", 5, start+end(n, 0))
			notParsed(t, "P6.2", 5, start+end(0, 0))
			notParsed(t, "P6.2", 5, start+endOf(l[1:]))
		}
		if n > 1 {
			notParsed(t, "P6.2", 5, start+end(n, sumOf(l[n-1:])))
			notParsed(t, "P6.2", 5, start+end(n, sumOf(l[:n-1])))
		}
	}
	notParsed(t, "P6.2", 1, head(1)+end(-1, 0))
	notParsed(t, "P6.2", 1, head(1)+end(math.MinInt, 0))
	notParsed(t, "P6.2", 1, head(1)+end(1<<62+1, 0))
}

// TestParseOrder: P6.2, none, if blocks changed places, or one is gone, or there twice.
func TestParseOrder(t *testing.T) {
	l := records(3, 12)
	a, b, c := blocked(l[:4]), blocked(l[4:8]), blocked(l[8:])
	parses(t, "P6.2", 3, head(3)+a+b+c+endOf(l), l)
	for _, blocks := range []string{b + a + c, a + c + b, c + b + a, a + b, b + c, a + c, a + b + c + c, a + a + b + c, a + b + b, ""} {
		notParsed(t, "P6.2", 3, head(3)+blocks+endOf(l))
	}
}

// TestParseOthers: P6.2, none of bytes that are nearly nothing, or all alike.
func TestParseOthers(t *testing.T) {
	for size := 1; size <= api.MaxSize; size++ {
		for _, s := range []string{"", "\x00", "C", "CHAIN1", head(byte(size)), endOf(nil), endOf(nil) + head(byte(size)), strings.Repeat("\x00", 28), strings.Repeat("\xff", 28), rolled(7, 300)} {
			notParsed(t, "P6.2", size, s)
		}
	}
}

// isFile: whether s is the file of some records, told by its length alone, and by where they stand then.
func isFile(size int, s string) ([]string, bool) {
	for n := 0; ; n++ {
		length := 28 + n*size + (n+3)/4*5
		if length > len(s) {
			return nil, false
		}
		if length < len(s) {
			continue
		}
		var l []string
		for i := range n {
			at := 11 + i/4*(4*size+5) + 1 + i%4*size
			l = append(l, s[at:at+size])
		}
		return l, file(size, l) == s
	}
}

// TestParsePatched: P6.2, of parts of files one behind the other, just what is a file is taken for one.
func TestParsePatched(t *testing.T) {
	files := 0
	for seed := range uint32(60000) {
		picks := []byte(rolled(seed, 8))
		l := records(2, int(picks[0]%10))
		parts := []string{head(2), blocked(l[:len(l)/4*4]), blocked(l[len(l)/4*4:]), endOf(l), block(l[:min(len(l), 2)]...), head(1), end(len(l), 0), "\x00"}
		s := head(2)
		for _, pick := range picks[1 : 2+picks[1]%5] {
			s += parts[int(pick>>3)%len(parts)]
		}
		want, ok := isFile(2, s)
		if ok {
			files++
			parses(t, "P6.2", 2, s, want)
		} else {
			notParsed(t, "P6.2", 2, s)
		}
	}
	if files < 100 {
		t.Errorf("just %d files were tried", files)
	}
}

// TestBack: P6.3, records come back from their file, and the size from its head.
func TestBack(t *testing.T) {
	for size := 1; size <= api.MaxSize; size++ {
		for _, l := range lists(size) {
			s, ok := Lay(size, l)
			if !ok {
				t.Fatalf("P6.3: %x have no file", l)
			}
			parses(t, "P6.3", size, s, l)
			if told, ok := GetHead(s[:Head]); !ok || told != size {
				t.Errorf("P6.3: the head of a file of %d tells %d, %v", size, told, ok)
			}
			if told, ok := frame.GetEnd(s[len(s)-frame.End:]); !ok || told != Sum(l) {
				t.Errorf("P6.3: the end of %x tells %v, %v", l, told, ok)
			}
			if len(s) != Length(size, len(l)) {
				t.Errorf("P6.3: the file of %x has %d bytes, want %d", l, len(s), Length(size, len(l)))
			}
		}
	}
}

// TestCut: P6.3, a file that ends ahead of its end is none, wherever.
func TestCut(t *testing.T) {
	for _, size := range []int{1, 2, 5, 31, 64} {
		for _, n := range []int{0, 1, 3, 4, 5, 8, 11} {
			s := file(size, records(size, n))
			for at := range len(s) {
				notParsed(t, "P6.3", size, s[:at])
				notParsed(t, "P6.3", size, s[at+1:])
				notParsed(t, "P6.3", size, s[:at]+s[at+1:])
			}
		}
	}
}

// TestGoesOn: P6.3, a file that goes on behind its end is none, whatever comes.
func TestGoesOn(t *testing.T) {
	for _, size := range []int{1, 3, 12, 64} {
		for _, n := range []int{0, 1, 3, 4, 5, 8} {
			l := records(size, n)
			s := file(size, l)
			for _, more := range []string{"\x00", "\x01", "\n", "C", s, head(byte(size)), endOf(l), endOf(nil), block(records(size, 1)...), block(records(size, 4)...), records(size, 1)[0], rolled(3, 300)} {
				notParsed(t, "P6.3", size, s+more)
			}
			again := append(slices.Clone(l), l...)
			notParsed(t, "P6.3", size, s+blocked(l)+endOf(again))
		}
	}
}

// turned answers s with those bits turned that the pattern has, from a bit on; of a byte the lowest bit is the first.
func turned(s string, from int, pattern uint32) string {
	all := []byte(s)
	for i := range 32 {
		if pattern>>i&1 == 1 {
			all[(from+i)/8] ^= 1 << ((from + i) % 8)
		}
	}
	return string(all)
}

// bursts are patterns of bits, the first one among them, and how many neighbouring ones these are within.
func bursts(try func(pattern uint32, width int)) {
	seed := uint32(1)
	for width := 1; width <= 32; width++ {
		last := uint32(1) << (width - 1)
		try(1|last, width)
		try(last|(last-1), width)
		for range 2 {
			seed = seed*1664525 + 1013904223
			try(seed&(last-1)|1|last, width)
		}
	}
}

// TestTurned: P6.3, a file is none with bits turned within 32 neighbouring ones of a block's records and sum.
func TestTurned(t *testing.T) {
	for _, l := range [][]string{
		records(1, 1), records(1, 4), records(1, 5), records(2, 3), records(3, 9), records(13, 6), records(64, 5),
		{"\x00"}, {"\x00", "\x00", "\x00", "\x00", "\x00"}, {"\xff\xff\xff\xff"},
	} {
		size, s := len(l[0]), file(len(l[0]), l)
		for first := 0; first < len(l); first += 4 {
			start := Head + first/4*(4*size+5) + 1
			stop := start + min(4, len(l)-first)*size + 4
			bursts(func(pattern uint32, width int) {
				for from := 8 * start; from+width <= 8*stop; from++ {
					notParsed(t, "P6.3", size, turned(s, from, pattern))
				}
			})
		}
	}
}

// TestTurnedElsewhere: P6.2, nor is it one with a bit turned of a head, a block's count, or an end.
func TestTurnedElsewhere(t *testing.T) {
	for _, size := range []int{1, 2, 3, 12, 64} {
		for n := range 10 {
			s := file(size, records(size, n))
			for bit := range 8 * len(s) {
				notParsed(t, "P6.2", size, turned(s, bit, 1))
			}
		}
	}
}

// TestOwn: 0.5, records of a file are memory of their own, and a list that is laid is left as it is.
func TestOwn(t *testing.T) {
	want := []string{"abc", "def", "ghi", "jkl", "mno"}
	given := []byte(file(3, want))
	l, _, e := Parse(3, unsafe.String(&given[0], len(given)))
	clear(given)
	if e != api.OK || !slices.Equal(l, want) {
		t.Errorf("0.5: what is parsed hangs on what was given: %q, %d", l, e)
	}
	bare := []byte("abc")
	list := append([]string{unsafe.String(&bare[0], len(bare))}, want[1:]...)
	s, _ := Lay(3, list)
	Sum(list)
	if !slices.Equal(list, want) {
		t.Errorf("0.5: what was given is changed: %q", list)
	}
	clear(bare)
	parses(t, "0.5", 3, s, want)
}

// TestOwnList: 0.5, what is done to a list that was parsed is not seen in another one.
func TestOwnList(t *testing.T) {
	want := []string{"abc", "def", "ghi", "jkl", "mno"}
	s := file(3, want)
	first, _, _ := Parse(3, s)
	first[0] = "xyz"
	_ = append(first[:1], "uvw")
	parses(t, "0.5", 3, s, want)
}
