package octet

import (
	"bytes"
	"math"
	"math/big"
	"slices"
	"strings"
	"testing"
	"unsafe"
)

// sizes are those that numbers have, and some beside them.
func sizes() []int {
	return []int{math.MinInt, math.MinInt + 1, -8, -1, 0, 1, 2, 3, 4, 5, 6, 7, 8, 9, 16, 64, math.MaxInt - 1, math.MaxInt}
}

// edges are numbers about which the bytes of another one begin.
func edges() []int {
	l := []int{math.MinInt, math.MinInt + 1, -258, 0, 1, 2, 127, 128, 257, 258, 259, 0x0102030405060708, math.MaxInt - 1, math.MaxInt}
	for bit := 7; bit < 63; bit++ {
		l = append(l, 1<<bit-1, 1<<bit, 1<<bit+1, -1<<bit)
	}
	return l
}

// told answers what the document says of n and k, by numbers without bounds.
func told(n, k int) (string, bool) {
	if k < 1 || k > 8 || n < 0 {
		return "", false
	}
	wide := big.NewInt(int64(n))
	if wide.Cmp(new(big.Int).Exp(big.NewInt(256), big.NewInt(int64(k)), nil)) >= 0 {
		return "", false
	}
	return string(wide.FillBytes(make([]byte, k))), true
}

// TestPut: P2.1, the bytes of numbers as they are written down.
func TestPut(t *testing.T) {
	for _, c := range []struct {
		n, k int
		want string
	}{
		{258, 2, "\x01\x02"},
		{0, 1, "\x00"},
		{255, 1, "\xff"},
		{255, 2, "\x00\xff"},
		{256, 2, "\x01\x00"},
		{65535, 2, "\xff\xff"},
		{1, 8, "\x00\x00\x00\x00\x00\x00\x00\x01"},
		{0x0102030405060708, 8, "\x01\x02\x03\x04\x05\x06\x07\x08"},
		{1<<56 - 1, 7, "\xff\xff\xff\xff\xff\xff\xff"},
		{math.MaxInt, 8, "\x7f\xff\xff\xff\xff\xff\xff\xff"},
	} {
		if got, ok := Put(c.n, c.k); !ok || got != c.want {
			t.Errorf("P2.1: Put(%d, %d) = %x, %v, want %x", c.n, c.k, got, ok, c.want)
		}
	}
}

// TestPutAll: P2.1, at the edges of all sizes, and none of others.
func TestPutAll(t *testing.T) {
	for _, k := range sizes() {
		for _, n := range edges() {
			want, fit := told(n, k)
			if got, ok := Put(n, k); ok != fit || got != want {
				t.Errorf("P2.1: Put(%d, %d) = %x, %v, want %x, %v", n, k, got, ok, want, fit)
			}
		}
	}
}

// TestGet: P2.1, the bytes from a place on, and none behind them.
func TestGet(t *testing.T) {
	s := "\x01\x02\x03\xff\x00\x05\x06\x07\x08\x80"
	for _, c := range []struct{ at, k, want int }{
		{0, 1, 1},
		{0, 2, 258},
		{1, 2, 0x0203},
		{3, 1, 255},
		{3, 2, 0xff00},
		{4, 2, 5},
		{9, 1, 128},
		{8, 2, 0x0880},
		{3, 7, 0xff000506070880},
		{0, 8, 0x010203ff00050607},
		{2, 8, 0x03ff000506070880},
	} {
		if got, ok := Get(s, c.at, c.k); !ok || got != c.want {
			t.Errorf("P2.1: Get(s, %d, %d) = %x, %v, want %x", c.at, c.k, got, ok, c.want)
		}
	}
}

// TestGetNotThere: P2.1, bytes that are not all there.
func TestGetNotThere(t *testing.T) {
	for length := range 10 {
		s := strings.Repeat("\x01", length)
		for at := -9; at < 12; at++ {
			for k := -1; k < 12; k++ {
				there := 1 <= k && k <= 8 && at >= 0 && at+k <= length
				if got, ok := Get(s, at, k); ok != there || !ok && got != 0 {
					t.Errorf("P2.1: Get of %d bytes at %d, %d = %d, %v, want %v", length, at, k, got, ok, there)
				}
			}
		}
	}
}

// TestGetFar: P2.1, places and sizes that wrap round when they are added.
func TestGetFar(t *testing.T) {
	s := strings.Repeat("\x01", 20)
	for _, at := range []int{math.MinInt, math.MinInt + 1, -8, -1, 20, 21, math.MaxInt - 8, math.MaxInt - 1, math.MaxInt} {
		for _, k := range sizes() {
			if got, ok := Get(s, at, k); ok || got != 0 {
				t.Errorf("P2.1: Get(s, %d, %d) = %d, %v, want none", at, k, got, ok)
			}
		}
	}
	for _, k := range []int{math.MinInt, -8, -1, 0, 9, 10, 20, math.MaxInt} {
		if got, ok := Get(s, 0, k); ok || got != 0 {
			t.Errorf("P2.1: Get(s, 0, %d) = %d, %v, want none", k, got, ok)
		}
	}
}

// TestGetNoNumber: P2.1, eight bytes of which there is no number.
func TestGetNoNumber(t *testing.T) {
	for first := range 256 {
		s := "\xff" + string([]byte{byte(first)}) + strings.Repeat("\xff", 7)
		want, ok := 0, first < 128
		if ok {
			want = first<<56 | (1<<56 - 1)
		}
		if got, there := Get(s, 1, 8); there != ok || got != want {
			t.Errorf("P2.1: Get of %x = %x, %v, want %x, %v", s, got, there, want, ok)
		}
		if got, there := Get(s, 1, 7); !there || got != first<<48|(1<<48-1) {
			t.Errorf("P2.1: Get of seven bytes of %x = %x, %v", s, got, there)
		}
	}
}

type coord struct {
	x     int
	bytes string
}

func coords() []coord {
	return []coord{
		{-1 << 31, "\x00\x00\x00\x00"},
		{-1<<31 + 1, "\x00\x00\x00\x01"},
		{-1 << 24, "\x7f\x00\x00\x00"},
		{-258, "\x7f\xff\xfe\xfe"},
		{-1, "\x7f\xff\xff\xff"},
		{0, "\x80\x00\x00\x00"},
		{1, "\x80\x00\x00\x01"},
		{258, "\x80\x00\x01\x02"},
		{1<<24 - 1, "\x80\xff\xff\xff"},
		{1<<31 - 2, "\xff\xff\xff\xfe"},
		{1<<31 - 1, "\xff\xff\xff\xff"},
	}
}

// TestCoord: P2.2, the bytes of coordinates, wherever they are.
func TestCoord(t *testing.T) {
	for _, c := range coords() {
		if got, ok := PutCoord(c.x); !ok || got != c.bytes {
			t.Errorf("P2.2: PutCoord(%d) = %x, %v, want %x", c.x, got, ok, c.bytes)
		}
		for at := range 5 {
			s := strings.Repeat("\xaa", at) + c.bytes + "\x55"
			if got, ok := GetCoord(s, at); !ok || got != c.x {
				t.Errorf("P2.2: GetCoord(%x, %d) = %d, %v, want %d", s, at, got, ok, c.x)
			}
		}
	}
}

// TestCoordOthers: P2.2, no coordinates, and bytes that are not all there.
func TestCoordOthers(t *testing.T) {
	for _, x := range []int{math.MinInt, math.MinInt + 1, -1 << 32, -1<<31 - 1, 1 << 31, 1<<31 + 1, 1<<32 - 1, 1 << 32, math.MaxInt - 1<<31, math.MaxInt - 1<<31 + 1, math.MaxInt} {
		if got, ok := PutCoord(x); ok || got != "" {
			t.Errorf("P2.2: PutCoord(%d) = %x, %v, want none", x, got, ok)
		}
	}
	for _, s := range []string{"", "\x80", "\x80\x00\x00", "\x80\x00\x00\x01", "\x80\x00\x00\x01\x02"} {
		for _, at := range []int{math.MinInt, -4, -1, len(s) - 3, len(s) - 1, len(s), len(s) + 1, math.MaxInt - 3, math.MaxInt} {
			if got, ok := GetCoord(s, at); ok || got != 0 {
				t.Errorf("P2.2: GetCoord(%x, %d) = %d, %v, want none", s, at, got, ok)
			}
		}
	}
}

// TestRow: P2.2, all numbers, one behind the other.
func TestRow(t *testing.T) {
	for _, c := range []struct {
		l    []int
		k    int
		want string
	}{
		{nil, 1, ""},
		{[]int{}, 8, ""},
		{nil, 0, ""}, // no number is without bytes
		{nil, -1, ""},
		{nil, 9, ""},
		{[]int{7}, 1, "\x07"},
		{[]int{1, 2, 1}, 1, "\x01\x02\x01"},
		{[]int{258, 0, 65535}, 2, "\x01\x02\x00\x00\xff\xff"},
		{[]int{3, 2, 1}, 3, "\x00\x00\x03\x00\x00\x02\x00\x00\x01"},
		{[]int{math.MaxInt, 1}, 8, "\x7f\xff\xff\xff\xff\xff\xff\xff\x00\x00\x00\x00\x00\x00\x00\x01"},
	} {
		given := slices.Clone(c.l)
		if got, ok := Row(c.l, c.k); !ok || got != c.want {
			t.Errorf("P2.2: Row(%v, %d) = %x, %v, want %x", c.l, c.k, got, ok, c.want)
		}
		if !slices.Equal(given, c.l) {
			t.Errorf("0.5: Row changed %v to %v", given, c.l)
		}
	}
}

// TestRowOthers: P2.2, no row, if one number of it has no bytes, wherever it stands.
func TestRowOthers(t *testing.T) {
	for _, k := range sizes() {
		for _, n := range edges() {
			one, fit := told(n, k)
			zero, all := told(0, k)
			for _, c := range []struct {
				l    []int
				want string
			}{
				{[]int{n}, one},
				{[]int{n, 0, 0}, one + zero + zero},
				{[]int{0, n, 0}, zero + one + zero},
				{[]int{0, 0, n}, zero + zero + one},
			} {
				want := c.want
				if !fit || !all {
					want = ""
				}
				if got, ok := Row(c.l, k); ok != fit || got != want {
					t.Errorf("P2.2: Row(%v, %d) = %x, %v, want %x, %v", c.l, k, got, ok, want, fit)
				}
			}
		}
	}
}

// TestSplit: P2.2, pieces of as many bytes each.
func TestSplit(t *testing.T) {
	for _, c := range []struct {
		s    string
		k    int
		want []string
	}{
		{"", 1, nil},
		{"", 64, nil},
		{"", math.MaxInt, nil},
		{"abc", 1, []string{"a", "b", "c"}},
		{"abcdef", 2, []string{"ab", "cd", "ef"}},
		{"abcdef", 3, []string{"abc", "def"}},
		{"abcdef", 6, []string{"abcdef"}},
		{"\x00\xff\x80\x00", 2, []string{"\x00\xff", "\x80\x00"}},
		{"ababab", 2, []string{"ab", "ab", "ab"}},
		{strings.Repeat("0123456789", 9), 30, []string{strings.Repeat("0123456789", 3), strings.Repeat("0123456789", 3), strings.Repeat("0123456789", 3)}},
	} {
		if got, ok := Split(c.s, c.k); !ok || !slices.Equal(got, c.want) {
			t.Errorf("P2.2: Split(%q, %d) = %q, %v, want %q", c.s, c.k, got, ok, c.want)
		}
	}
}

// TestSplitOthers: P2.2, what does not come out even, and what is no size.
func TestSplitOthers(t *testing.T) {
	for length := range 20 {
		s := strings.Repeat("x", length)
		for _, k := range append(sizes(), 10, 11, 12, 13, 19, 20) {
			got, ok := Split(s, k)
			if even := k >= 1 && length%k == 0; ok != even || !ok && got != nil {
				t.Errorf("P2.2: Split of %d bytes, %d = %q, %v, want %v", length, k, got, ok, even)
			}
			if ok && strings.Join(got, "") != s {
				t.Errorf("P2.2: Split of %d bytes, %d = %q", length, k, got)
			}
		}
	}
}

// TestSplitOwn: pieces are memory of their own.
func TestSplitOwn(t *testing.T) {
	given := []byte("abcdef")
	pieces, ok := Split(unsafe.String(&given[0], len(given)), 2)
	clear(given)
	if !ok || !slices.Equal(pieces, []string{"ab", "cd", "ef"}) {
		t.Errorf("the pieces hang on what was given: %q, %v", pieces, ok)
	}
}

// TestBack: P2.3, numbers come back.
func TestBack(t *testing.T) {
	for k := 1; k <= 8; k++ {
		var fit []int
		for _, n := range edges() {
			s, ok := Put(n, k)
			if !ok {
				continue
			}
			fit = append(fit, n)
			if got, ok := Get("\xff"+s+"\xff", 1, k); !ok || got != n {
				t.Errorf("P2.3: %d of %d bytes comes back as %d, %v", n, k, got, ok)
			}
		}
		row, ok := Row(fit, k)
		pieces, even := Split(row, k)
		if !ok || !even || len(pieces) != len(fit) {
			t.Fatalf("P2.3: %d numbers of %d bytes come back as %d", len(fit), k, len(pieces))
		}
		for i, p := range pieces {
			if got, ok := Get(p, 0, k); !ok || got != fit[i] {
				t.Errorf("P2.3: %d of a row of %d bytes each comes back as %d, %v", fit[i], k, got, ok)
			}
		}
	}
	for _, x := range edges() {
		s, ok := PutCoord(x)
		if got, there := GetCoord(s, 0); there != ok || ok && got != x {
			t.Errorf("P2.3: coordinate %d comes back as %d, %v", x, got, there)
		}
	}
}

// sorted answers whether the bytes stand as their numbers do; l is sorted.
func sorted(l []int, put func(int) (string, bool)) bool {
	last := ""
	for i, n := range l {
		s, ok := put(n)
		if !ok || i > 0 && bytes.Compare([]byte(last), []byte(s)) >= 0 {
			return false
		}
		last = s
	}
	return true
}

// TestOrder: P2.3, the bytes of a lesser number stand ahead.
func TestOrder(t *testing.T) {
	all := edges()
	slices.Sort(all)
	all = slices.Compact(all)
	for k := 1; k <= 8; k++ {
		fit := slices.DeleteFunc(slices.Clone(all), func(n int) bool { _, ok := told(n, k); return !ok })
		if len(fit) < 2 || !sorted(fit, func(n int) (string, bool) { return Put(n, k) }) {
			t.Errorf("P2.3: %d numbers of %d bytes do not stand in order", len(fit), k)
		}
	}
	near := slices.DeleteFunc(slices.Clone(all), func(x int) bool { return x < -1<<31 || x >= 1<<31 })
	if len(near) < 50 || !sorted(near, PutCoord) {
		t.Errorf("P2.3: %d coordinates do not stand in order", len(near))
	}
}
