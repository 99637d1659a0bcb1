package frame

import (
	"encoding/binary"
	"hash/crc32"
	"math"
	"slices"
	"strings"
	"testing"
	"unsafe"

	"chainman/api"
)

// closed answers s, and behind it its sum, as the document tells it: the lowest byte first.
func closed(s string) string {
	return string(binary.LittleEndian.AppendUint32([]byte(s), crc32.ChecksumIEEE([]byte(s))))
}

// block answers a block as the document tells it, whatever its records are.
func block(l []string) string {
	s := string([]byte{byte(len(l))})
	for _, r := range l {
		s += r
	}
	return closed(s)
}

// end answers an end as the document tells it, whatever its count is.
func end(count uint64, sum uint32) string {
	all := binary.BigEndian.AppendUint64([]byte{0}, count)
	return closed(string(binary.BigEndian.AppendUint32(all, sum)))
}

// rolled answers bytes that look like no others, always the same ones of a seed.
func rolled(seed uint32, length int) string {
	all := make([]byte, length)
	for i := range all {
		seed = seed*1664525 + 1013904223
		all[i] = byte(seed >> 24)
	}
	return string(all)
}

// records answers so many records of a size, unlike one another where they may be.
func records(size, n int) []string {
	var l []string
	for i := range n {
		l = append(l, rolled(uint32(64*size+i), size))
	}
	return l
}

// lists are records of a size, 1 to 4 of them: rolled ones, and bytes that are all alike.
func lists(size int) [][]string {
	var all [][]string
	for n := 1; n <= 4; n++ {
		all = append(all, records(size, n))
		for _, b := range []string{"\x00", "\x01", "\x04", "\xff"} {
			all = append(all, slices.Repeat([]string{strings.Repeat(b, size)}, n))
		}
	}
	return all
}

// noSizes are numbers that are no record's size.
func noSizes() []int {
	return []int{math.MinInt, math.MinInt + 1, -65, -64, -4, -1, 0, 65, 66, 128, 255, 256, 257, 1 << 32, 1<<32 + 1, 1 << 62, 1<<62 + 1, math.MaxInt - 1, math.MaxInt}
}

// TestRoom: P5.1, the bytes of a block of 4 records of each size, and 0 of what is no size.
func TestRoom(t *testing.T) {
	for _, c := range []struct{ size, want int }{{1, 9}, {2, 13}, {16, 69}, {63, 257}, {64, 261}} {
		if got := Room(c.size); got != c.want {
			t.Errorf("P5.1: Room(%d) = %d, want %d", c.size, got, c.want)
		}
	}
	for size := 1; size <= api.MaxSize; size++ {
		if got, want := Room(size), len(block(records(size, 4))); got != want {
			t.Errorf("P5.1: Room(%d) = %d, want %d", size, got, want)
		}
	}
	for _, size := range noSizes() {
		if got := Room(size); got != 0 {
			t.Errorf("P5.1: Room(%d) = %d, want 0", size, got)
		}
	}
}

// TestPut: P5.1, blocks as they are written down.
func TestPut(t *testing.T) {
	for _, c := range []struct {
		size int
		l    []string
		want string
	}{
		{1, []string{"a"}, "\x01a\x70\x72\x77\x62"},
		{1, []string{"a", "b"}, "\x02ab\xee\x57\x9f\x23"},
		{2, []string{"ab"}, "\x01ab\xb7\xe9\xd9\x21"},
		{1, []string{"a", "b", "c", "d"}, "\x04abcd\xd0\x43\x64\xff"},
		{3, []string{"abc", "abc", "\x00\x00\x00"}, "\x03abcabc\x00\x00\x00\x13\x17\xfc\x62"},
	} {
		got, ok := Put(c.size, c.l)
		if !ok || got != c.want || got != block(c.l) {
			t.Errorf("P5.1: Put(%d, %q) = %x, %v, want %x", c.size, c.l, got, ok, c.want)
		}
	}
}

// TestPutAll: P5.1, blocks of every size, with as many records as there may be.
func TestPutAll(t *testing.T) {
	for size := 1; size <= api.MaxSize; size++ {
		for _, l := range lists(size) {
			if got, ok := Put(size, l); !ok || got != block(l) {
				t.Errorf("P5.1: Put(%d, %x) = %x, %v, want %x", size, l, got, ok, block(l))
			}
		}
	}
}

func notPut(t *testing.T, size int, l []string) {
	t.Helper()
	if got, ok := Put(size, l); ok || got != "" {
		t.Errorf("P5.1: Put(%d, %d records %.80q) = %x, %v, want none", size, len(l), l, got, ok)
	}
}

// TestPutCounts: P5.1, none of no records, and of more than 4.
func TestPutCounts(t *testing.T) {
	for _, size := range []int{1, 2, 3, 4, 5, 32, 63, 64} {
		notPut(t, size, nil)
		notPut(t, size, []string{})
		for _, n := range []int{5, 6, 7, 8, 64, 128, 255, 256, 257, 258, 260, 512, 1 << 16, 1<<16 + 1} {
			notPut(t, size, slices.Repeat([]string{rolled(1, size)}, n))
		}
	}
}

// TestPutSizes: P5.1, none of a record of another size, wherever it stands.
func TestPutSizes(t *testing.T) {
	for _, size := range []int{1, 2, 3, 8, 63, 64} {
		for n := 1; n <= 4; n++ {
			for at := range n {
				for _, other := range []int{0, 1, size - 1, size + 1, 2 * size, 64, 65, 256 + size} {
					if other == size {
						continue
					}
					l := records(size, n)
					l[at] = rolled(9, other)
					notPut(t, size, l)
				}
			}
		}
	}
	notPut(t, 2, []string{"a", "bcd"}) // as many bytes in all as two have
	notPut(t, 2, []string{"abc", "d"})
	notPut(t, 2, []string{"", "abcd"})
	notPut(t, 1, []string{"ä"}) // one letter, two bytes
}

// TestPutNoSize: P5.1, none of what is no size, of whatever records.
func TestPutNoSize(t *testing.T) {
	for _, size := range noSizes() {
		notPut(t, size, nil)
		for _, l := range [][]string{{""}, {"", "", "", ""}, {"a"}, {"ab", "cd"}, records(64, 4)} {
			notPut(t, size, l)
		}
		if 0 < size && size < 1<<16 {
			for n := 1; n <= 4; n++ {
				notPut(t, size, records(size, n))
			}
		}
	}
}

// gets fails the test, if s does not begin with a block of just these records.
func gets(t *testing.T, promise string, size int, s string, l []string) {
	t.Helper()
	length := len(block(l))
	got, n, ok := Get(size, s)
	if !ok || n != length || !slices.Equal(got, l) {
		t.Errorf("%s: Get(%d, %x) = %x, %d, %v, want %x, %d", promise, size, s, got, n, ok, l, length)
	}
}

func notGot(t *testing.T, promise string, size int, s string) {
	t.Helper()
	if got, n, ok := Get(size, s); ok || n != 0 || len(got) != 0 {
		t.Errorf("%s: Get(%d, %x) = %x, %d, %v, want none", promise, size, s, got, n, ok)
	}
}

// TestGet: P5.1, the records of a block, alone, and of one with bytes behind it.
func TestGet(t *testing.T) {
	gets(t, "P5.1", 1, "\x01a\x70\x72\x77\x62", []string{"a"})
	gets(t, "P5.1", 2, "\x01ab\xb7\xe9\xd9\x21", []string{"ab"})
	gets(t, "P5.1", 1, "\x04abcd\xd0\x43\x64\xff", []string{"a", "b", "c", "d"})
	for size := 1; size <= api.MaxSize; size++ {
		for _, l := range lists(size) {
			s := block(l)
			for _, behind := range []string{"", "\x00", "\x01", "a", s, end(4, 7), rolled(2, 300)} {
				gets(t, "P5.1", size, s+behind, l)
			}
		}
	}
}

// TestGetCut: P5.1, none of a block that is not whole, and of one that begins later.
func TestGetCut(t *testing.T) {
	for _, size := range []int{1, 2, 5, 31, 64} {
		for n := 1; n <= 4; n++ {
			s := block(records(size, n))
			for at := range len(s) {
				notGot(t, "P5.1", size, s[:at])
			}
			for ahead := range 4 {
				notGot(t, "P5.1", size, strings.Repeat("\x00", ahead+1)+s)
			}
		}
	}
}

// TestGetNone: P5.1, none of bytes that are no block, though they are closed.
func TestGetNone(t *testing.T) {
	for size := 1; size <= api.MaxSize; size++ {
		notGot(t, "P5.1", size, "")
		notGot(t, "P5.1", size, "\x01")
		notGot(t, "P5.1", size, closed(""))
		notGot(t, "P5.1", size, closed("\x00"))
		notGot(t, "P5.1", size, end(1, 1))
		for _, n := range []int{5, 6, 7, 8, 127, 128, 129, 132, 255} {
			notGot(t, "P5.1", size, closed(string([]byte{byte(n)})+strings.Repeat("a", n*size)))
			notGot(t, "P5.1", size, closed(string([]byte{byte(n)})+strings.Repeat("a", size)))
			notGot(t, "P5.1", size, closed(string([]byte{byte(n)})))
		}
		notGot(t, "P5.1", size, strings.Repeat("\x01", 300))
		notGot(t, "P5.1", size, "\x01"+closed(strings.Repeat("a", size))) // the sum is of the count, too
	}
}

// TestGetSum: P5.1, none, if the sum is another one, or stands the other way round.
func TestGetSum(t *testing.T) {
	for _, size := range []int{1, 7, 64} {
		for n := 1; n <= 4; n++ {
			s := []byte(block(records(size, n)))
			sum := s[len(s)-4:]
			for _, turn := range []byte{1, 2, 16, 128, 255} {
				for i := range sum {
					sum[i] ^= turn
					notGot(t, "P5.1", size, string(s))
					sum[i] ^= turn
				}
			}
			slices.Reverse(sum)
			notGot(t, "P5.1", size, string(s))
		}
	}
}

// TestGetSizes: P5.1, a block of one size is none of another one.
func TestGetSizes(t *testing.T) {
	for _, size := range []int{1, 2, 3, 16, 32, 63, 64} {
		for n := 1; n <= 4; n++ {
			s := block(records(size, n))
			for other := 1; other <= api.MaxSize; other++ {
				if other != size {
					notGot(t, "P5.1", other, s)
					notGot(t, "P5.1", other, s+rolled(3, 300))
				}
			}
		}
	}
}

// TestGetNoSize: P5.1, none of what is no size, also where bytes of such a size are closed.
func TestGetNoSize(t *testing.T) {
	for _, size := range noSizes() {
		for _, s := range []string{"", "\x00", "\x01", closed(""), closed("\x00"), closed("\x01"), closed("\x04"), block(records(1, 1)), block(records(64, 4)), end(0, 0)} {
			notGot(t, "P5.1", size, s)
		}
		if 0 < size && size < 1<<16 {
			for n := 1; n <= 4; n++ {
				notGot(t, "P5.1", size, block(records(size, n)))
			}
		}
	}
}

// counts are those that an end may tell.
func counts() []int {
	l := []int{0, 1, 2, 3, 4, 5, 255, 256, 0x0102030405060708, 1<<62 - 1, 1 << 62}
	for bit := range 62 {
		l = append(l, 1<<bit, 1<<bit+1)
	}
	return l
}

// sums are those that an end may tell.
func sums() []uint32 {
	l := []uint32{0, 1, 7, 255, 256, 0x01020304, 0x7fffffff, 0xcbf43926, math.MaxUint32 - 1, math.MaxUint32}
	for bit := range 32 {
		l = append(l, 1<<bit)
	}
	return l
}

// TestPutEnd: P5.2, ends as they are written down, and at the edges.
func TestPutEnd(t *testing.T) {
	const start = "\x00\x01\x02\x03\x04\x05\x06\x07\x08\x0a\x0b\x0c\x0d"
	if got, ok := PutEnd(api.Info{Count: 0x0102030405060708, Sum: 0x0a0b0c0d}); !ok || got != closed(start) {
		t.Errorf("P5.2: PutEnd = %x, %v, want %x", got, ok, closed(start))
	}
	if got, ok := PutEnd(api.Info{Count: 3, Sum: 7}); !ok || got != "\x00\x00\x00\x00\x00\x00\x00\x00\x03\x00\x00\x00\x07\xf1\xa9\xb0\xd6" {
		t.Errorf("P5.2: PutEnd(3, 7) = %x, %v", got, ok)
	}
	for _, count := range counts() {
		for _, sum := range sums() {
			got, ok := PutEnd(api.Info{Count: count, Sum: sum})
			if want := end(uint64(count), sum); !ok || got != want || len(got) != End {
				t.Errorf("P5.2: PutEnd(%d, %x) = %x, %v, want %x", count, sum, got, ok, want)
			}
		}
	}
}

// TestPutEndNone: P5.2, none of a count that there may not be.
func TestPutEndNone(t *testing.T) {
	for _, count := range []int{math.MinInt, math.MinInt + 1, -1 << 62, -1 << 32, -256, -2, -1, 1<<62 + 1, 1<<62 + 2, 1<<62 + 1<<61, math.MaxInt - 1, math.MaxInt} {
		for _, sum := range sums() {
			if got, ok := PutEnd(api.Info{Count: count, Sum: sum}); ok || got != "" {
				t.Errorf("P5.2: PutEnd(%d, %x) = %x, %v, want none", count, sum, got, ok)
			}
		}
	}
}

// TestGetEnd: P5.2, what ends say, at the edges.
func TestGetEnd(t *testing.T) {
	for _, count := range counts() {
		for _, sum := range sums() {
			want := api.Info{Count: count, Sum: sum}
			if got, ok := GetEnd(end(uint64(count), sum)); !ok || got != want {
				t.Errorf("P5.2: GetEnd of %d, %x = %v, %v", count, sum, got, ok)
			}
		}
	}
}

func notEnd(t *testing.T, promise, s string) {
	t.Helper()
	if got, ok := GetEnd(s); ok || got != (api.Info{}) {
		t.Errorf("%s: GetEnd(%x) = %v, %v, want none", promise, s, got, ok)
	}
}

// TestGetEndCounts: P5.2, none of bytes that are closed, and tell a count that there may not be.
func TestGetEndCounts(t *testing.T) {
	for _, count := range []uint64{1<<62 + 1, 1<<62 + 2, 1<<63 - 1, 1 << 63, 1<<63 + 1, 1<<63 + 3, 1<<63 | 1<<62, math.MaxUint64 - 1, math.MaxUint64} {
		for _, sum := range sums() {
			notEnd(t, "P5.2", end(count, sum))
		}
	}
}

// TestGetEndLengths: P5.2, none of more bytes, or fewer, also where these are closed.
func TestGetEndLengths(t *testing.T) {
	s := end(3, 7)
	for at := range len(s) {
		notEnd(t, "P5.2", s[:at])
		notEnd(t, "P5.2", s[at+1:])
	}
	for _, other := range []string{"\x00", "a", s, block(records(1, 1)), strings.Repeat("\x00", 1<<10)} {
		notEnd(t, "P5.2", s+other)
		notEnd(t, "P5.2", other+s)
	}
	for length := range 40 {
		if length != 13 {
			notEnd(t, "P5.2", closed(strings.Repeat("\x00", length)))
		}
	}
}

// TestGetEndOthers: P5.2, none of 17 bytes of which the first is not 0, or the sum is not theirs.
func TestGetEndOthers(t *testing.T) {
	rest := "\x00\x00\x00\x00\x00\x00\x00\x03\x00\x00\x00\x07"
	for first := 1; first < 256; first++ {
		notEnd(t, "P5.2", closed(string([]byte{byte(first)})+rest))
	}
	notEnd(t, "P5.2", block(records(3, 4)))
	notEnd(t, "P5.2", block(records(12, 1)))
	notEnd(t, "P5.2", "\x00"+closed(rest))
	notEnd(t, "P5.2", strings.Repeat("\x00", 17))
	notEnd(t, "P5.2", strings.Repeat("\xff", 17))
	s := []byte(end(3, 7))
	slices.Reverse(s[13:])
	notEnd(t, "P5.2", string(s))
}

// TestBlocksBack: P5.3, blocks come back, also one behind the other.
func TestBlocksBack(t *testing.T) {
	for size := 1; size <= api.MaxSize; size++ {
		all := ""
		for _, l := range lists(size) {
			s, ok := Put(size, l)
			if !ok {
				t.Fatalf("P5.3: %x has no block", l)
			}
			gets(t, "P5.3", size, s, l)
			all += s
		}
		for _, l := range lists(size) {
			got, n, ok := Get(size, all)
			if !ok || !slices.Equal(got, l) {
				t.Fatalf("P5.3: %x comes back as %x, %v", l, got, ok)
			}
			all = all[n:]
		}
		if all != "" {
			t.Errorf("P5.3: %x is left of blocks", all)
		}
	}
}

// TestEndsBack: P5.3, ends come back, and none is a block.
func TestEndsBack(t *testing.T) {
	for _, count := range counts() {
		for _, sum := range sums() {
			want := api.Info{Count: count, Sum: sum}
			s, ok := PutEnd(want)
			if !ok {
				t.Fatalf("P5.3: %v has no end", want)
			}
			if got, ok := GetEnd(s); !ok || got != want {
				t.Errorf("P5.3: %v comes back as %v, %v", want, got, ok)
			}
			notGot(t, "P5.3", 1, s)
			notGot(t, "P5.3", 3, s)
			notGot(t, "P5.3", 12, s)
		}
	}
}

// turned answers s with those bits turned that the pattern has, from a bit on; of a byte the lowest bit is the first.
func turned(s string, from int, pattern uint32) string {
	all := []byte(s)
	for i := range 32 {
		if pattern>>i&1 == 1 {
			all[(from+i)/8] ^= 1 << ((from + i) % 8)
		}
	}
	return string(all)
}

// bursts are patterns of bits, the first one among them, and how many neighbouring ones these are within.
func bursts(try func(pattern uint32, width int)) {
	seed := uint32(1)
	for width := 1; width <= 32; width++ {
		last := uint32(1) << (width - 1)
		try(1|last, width)
		try(last|(last-1), width)
		for range 4 {
			seed = seed*1664525 + 1013904223
			try(seed&(last-1)|1|last, width)
		}
	}
}

// TestBlocksTurned: P5.3, with bits turned within 32 neighbouring ones behind the first byte nothing comes back.
func TestBlocksTurned(t *testing.T) {
	for _, l := range [][]string{
		records(1, 1), records(1, 2), records(1, 3), records(1, 4),
		records(2, 1), records(3, 4), records(13, 2), records(64, 4),
		{"\x00"}, {"\x00", "\x00", "\x00", "\x00"}, {"\xff\xff\xff\xff"},
	} {
		size, s := len(l[0]), block(l)
		bursts(func(pattern uint32, width int) {
			for from := 8; from+width <= 8*len(s); from++ {
				other := turned(s, from, pattern)
				notGot(t, "P5.3", size, other)
				notGot(t, "P5.3", size, other+s)
			}
		})
	}
}

// TestEndsTurned: P5.3, likewise of ends.
func TestEndsTurned(t *testing.T) {
	for _, x := range []api.Info{{}, {Count: 3, Sum: 7}, {Count: 1 << 62, Sum: math.MaxUint32}, {Count: 0x0102030405060708, Sum: 0xcbf43926}} {
		s := end(uint64(x.Count), x.Sum)
		bursts(func(pattern uint32, width int) {
			for from := 8; from+width <= 8*len(s); from++ {
				notEnd(t, "P5.3", turned(s, from, pattern))
			}
		})
	}
}

// TestAnyBytes: whatever bytes come in, what is got is a block of just what it says.
func TestAnyBytes(t *testing.T) {
	for seed := range uint32(3000) {
		s := []byte(rolled(seed, int(seed%40)))
		if len(s) > 0 {
			s[0] %= 6
		}
		for _, size := range []int{1, 2, 3, 5, 8} {
			l, n, ok := Get(size, string(s))
			if ok && string(s[:n]) != block(l) {
				t.Errorf("P5.1: Get(%d, %x) = %x, %d", size, s, l, n)
			}
		}
		if x, ok := GetEnd(string(s)); ok && string(s) != end(uint64(x.Count), x.Sum) {
			t.Errorf("P5.2: GetEnd(%x) = %v", s, x)
		}
	}
}

// TestOwn: 0.5, records that are got are memory of their own, and a list that is put is left as it is.
func TestOwn(t *testing.T) {
	given := []byte(block([]string{"abc", "def"}))
	l, _, ok := Get(3, unsafe.String(&given[0], len(given)))
	clear(given)
	if !ok || !slices.Equal(l, []string{"abc", "def"}) {
		t.Errorf("0.5: what is got hangs on what was given: %q, %v", l, ok)
	}
	bare := []byte("abc")
	list := []string{unsafe.String(&bare[0], len(bare)), "def"}
	s, _ := Put(3, list)
	if !slices.Equal(list, []string{"abc", "def"}) {
		t.Errorf("0.5: what was given is changed: %q", list)
	}
	clear(bare)
	gets(t, "0.5", 3, s, []string{"abc", "def"})
}

// TestOwnList: 0.5, what is done to a list that was got is not seen in another one.
func TestOwnList(t *testing.T) {
	s := block([]string{"abc", "def"})
	first, _, _ := Get(3, s)
	first[0] = "xyz"
	_ = append(first[:1], "uvw")
	gets(t, "0.5", 3, s, []string{"abc", "def"})
}
