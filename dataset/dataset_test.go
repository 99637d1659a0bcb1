package dataset

import (
	"encoding/binary"
	"math"
	"slices"
	"strings"
	"testing"
	"unsafe"

	"chainman/api"
)

// head answers a head as the document tells it, whatever n and d are.
func head(n, d int) string {
	all := binary.BigEndian.AppendUint32([]byte("VEC1"), uint32(n))
	return string(binary.BigEndian.AppendUint16(all, uint16(d)))
}

// numbers answers the bytes of numbers as the document tells them, also of those that no vector has.
func numbers(l ...int) string {
	var all []byte
	for _, x := range l {
		all = binary.BigEndian.AppendUint32(all, uint32(x+1<<31))
	}
	return string(all)
}

// file answers the dataset of vectors as the document tells it.
func file(l [][]int) string {
	var s strings.Builder
	s.WriteString(head(len(l), len(l[0])))
	for _, v := range l {
		s.WriteString(numbers(v...))
	}
	return s.String()
}

// rolled answers numbers that vectors may have, always the same ones of a seed.
func rolled(seed uint32, length int) []int {
	l := make([]int, length)
	for i := range l {
		seed = seed*1664525 + 1013904223
		l[i] = int(seed>>7) - 1<<24
		if l[i] == -1<<24 {
			l[i] = 0
		}
	}
	return l
}

// vectors answers n of d numbers, unlike one another.
func vectors(n, d int) [][]int {
	var l [][]int
	for i := range n {
		l = append(l, rolled(uint32(5000*d+i), d))
	}
	return l
}

// copied answers lists that share nothing with those of l.
func copied(l [][]int) [][]int {
	var all [][]int
	for _, v := range l {
		all = append(all, slices.Clone(v))
	}
	return all
}

func same(a, b [][]int) bool { return slices.EqualFunc(a, b, slices.Equal[[]int]) }

// sets are vectors of many counts and lengths: rolled ones, and such as are all alike.
func sets() [][][]int {
	var all [][][]int
	for _, c := range [][2]int{{1, 1}, {1, 2}, {2, 1}, {2, 3}, {3, 2}, {3, 3}, {5, 1}, {1, 17}, {7, 13}, {255, 1}, {256, 1}, {257, 2}, {1, 255}, {1, 256}, {2, 257}, {1, 4095}, {1, 4096}, {3, 4096}, {65536, 1}} {
		all = append(all, vectors(c[0], c[1]))
		for _, x := range []int{0, 1, -1, 1<<24 - 1, 1 - 1<<24} {
			all = append(all, slices.Repeat([][]int{slices.Repeat([]int{x}, c[1])}, c[0]))
		}
	}
	return all
}

// good are numbers that vectors have, at the edges.
func good() []int {
	l := []int{0, 1, -1, 1<<24 - 1, 1<<24 - 2, 1 - 1<<24, 2 - 1<<24}
	for bit := range 24 {
		l = append(l, 1<<bit, -1<<bit)
	}
	return l
}

// far are numbers that have a coordinate's bytes, but that no vector has.
func far() []int {
	l := []int{1<<24 + 1, -1<<24 - 1, 1<<31 - 1, 1<<31 - 2, 1 - 1<<31}
	for bit := 24; bit < 31; bit++ {
		l = append(l, 1<<bit, -1<<bit)
	}
	return append(l, -1<<31)
}

// wild are numbers that have not even bytes.
func wild() []int {
	return []int{math.MinInt, math.MinInt + 1, -1 << 62, -1<<32 - 1, -1 << 32, -1<<32 + 1, -1<<31 - 1, 1 << 31, 1<<31 + 1, 1<<32 - 1, 1 << 32, 1<<32 + 1, 1 << 62, math.MaxInt - 1<<31, math.MaxInt - 1, math.MaxInt}
}

// noDims are numbers of numbers that no vector has.
func noDims() []int {
	return []int{math.MinInt, math.MinInt + 1, -1 << 62, 1 - 1<<62, -1 << 32, -65535, -4096, -4, -1, 0, 4097, 4098, 8192, 65535, 65536, 65537, 1 << 32, 1<<32 + 1, 1 << 60, 1 << 61, 1<<61 + 1, 1 << 62, 1<<62 + 1, 1<<62 + 4096, math.MaxInt - 1, math.MaxInt}
}

// TestHead: P10.1, how many bytes a head has.
func TestHead(t *testing.T) {
	if Head != 10 {
		t.Errorf("P10.1: a head has %d bytes", Head)
	}
}

func lays(t *testing.T, l [][]int, want string) {
	t.Helper()
	given := copied(l)
	if got, ok := Lay(l); !ok || got != want {
		t.Errorf("P10.1: Lay of %d vectors = %.60x, %v, want %.60x", len(l), got, ok, want)
	}
	if !same(given, l) {
		t.Errorf("0.5: Lay changed %d vectors", len(l))
	}
}

func laysNot(t *testing.T, what string, l [][]int) {
	t.Helper()
	if got, ok := Lay(l); ok || got != "" {
		t.Errorf("P10.1: Lay of %s = %.60x, %v, want none", what, got, ok)
	}
}

// TestLay: P10.1, datasets as they are written down.
func TestLay(t *testing.T) {
	lays(t, [][]int{{7}}, "VEC1\x00\x00\x00\x01\x00\x01\x80\x00\x00\x07")
	lays(t, [][]int{{0}, {5}, {6}}, "VEC1\x00\x00\x00\x03\x00\x01\x80\x00\x00\x00\x80\x00\x00\x05\x80\x00\x00\x06")
	lays(t, [][]int{{-1, 258}, {1<<24 - 1, 1 - 1<<24}}, "VEC1\x00\x00\x00\x02\x00\x02\x7f\xff\xff\xff\x80\x00\x01\x02\x80\xff\xff\xff\x7f\x00\x00\x01")
	lays(t, [][]int{{0, 0, 0}}, "VEC1\x00\x00\x00\x01\x00\x03\x80\x00\x00\x00\x80\x00\x00\x00\x80\x00\x00\x00")
}

// TestLayAll: P10.1, of many counts and lengths, and of numbers at the edges.
func TestLayAll(t *testing.T) {
	for _, l := range sets() {
		lays(t, l, file(l))
	}
	for _, x := range good() {
		lays(t, [][]int{{x}}, head(1, 1)+numbers(x))
		lays(t, [][]int{{0, x}, {x, 0}}, head(2, 2)+numbers(0, x, x, 0))
	}
}

// TestLayNone: P10.1, none of no vectors, of such as have no numbers, and of such as have unlike many.
func TestLayNone(t *testing.T) {
	laysNot(t, "nil", nil)
	laysNot(t, "none", [][]int{})
	laysNot(t, "a vector that is nil", [][]int{nil})
	laysNot(t, "a vector of none", [][]int{{}})
	laysNot(t, "vectors of none", [][]int{{}, nil, {}})
	laysNot(t, "none ahead of one", [][]int{nil, {1}})
	laysNot(t, "none behind one", [][]int{{1}, {}})
	for n := 2; n < 6; n++ {
		for d := 1; d < 5; d++ {
			for at := range n {
				l := vectors(n, d)
				l[at] = l[at][1:]
				laysNot(t, "one that lacks a number", l)
				l[at] = rolled(9, d+1)
				laysNot(t, "one with a number more", l)
			}
		}
	}
	laysNot(t, "as many numbers in all", [][]int{{1, 2}, {3}, {4, 5, 6}})
}

// TestLayNumbers: P10.1, none, if a number is none such, wherever it stands.
func TestLayNumbers(t *testing.T) {
	for _, x := range append(far(), wild()...) {
		for n := 1; n < 4; n++ {
			for d := 1; d < 4; d++ {
				for at := range n * d {
					l := vectors(n, d)
					l[at/d][at%d] = x
					laysNot(t, "a number that is too far", l)
				}
			}
		}
	}
}

// TestLayLimits: P10.1, as many vectors and numbers as may be, and none of more.
func TestLayLimits(t *testing.T) {
	one := rolled(1, 1)
	lays(t, slices.Repeat([][]int{one}, 1<<20), head(1<<20, 1)+strings.Repeat(numbers(one...), 1<<20))
	laysNot(t, "too many vectors", slices.Repeat([][]int{one}, 1<<20+1))
	laysNot(t, "too many numbers", vectors(1, 4097))
	laysNot(t, "too many numbers each", vectors(3, 4097))
	laysNot(t, "numbers of which two bytes tell 1", [][]int{make([]int, 65537)})
	laysNot(t, "vectors of which just the first has numbers", append(vectors(1, 4096), make([][]int, 1<<20-1)...))
}

func parses(t *testing.T, promise, s string, want [][]int) {
	t.Helper()
	if got, e := Parse(s); e != api.OK || !same(got, want) {
		t.Errorf("%s: Parse(%.60x) = %d vectors, %d, want %d", promise, s, len(got), e, len(want))
	}
	if !Valid(s) {
		t.Errorf("%s: Valid(%.60x) = false", promise, s)
	}
}

func parsesNot(t *testing.T, s string) {
	t.Helper()
	if got, e := Parse(s); e != api.ErrInput || got != nil {
		t.Errorf("P10.1: Parse(%.60x) of %d bytes = %d vectors, %d, want none", s, len(s), len(got), e)
	}
	if Valid(s) {
		t.Errorf("P10.1: Valid(%.60x) of %d bytes = true", s, len(s))
	}
}

// TestParse: P10.1, the vectors of datasets.
func TestParse(t *testing.T) {
	parses(t, "P10.1", "VEC1\x00\x00\x00\x01\x00\x01\x80\x00\x00\x07", [][]int{{7}})
	parses(t, "P10.1", "VEC1\x00\x00\x00\x02\x00\x02\x7f\xff\xff\xff\x80\x00\x01\x02\x80\xff\xff\xff\x7f\x00\x00\x01", [][]int{{-1, 258}, {1<<24 - 1, 1 - 1<<24}})
	for _, l := range sets() {
		parses(t, "P10.1", file(l), l)
	}
	for _, x := range good() {
		parses(t, "P10.1", head(1, 1)+numbers(x), [][]int{{x}})
		parses(t, "P10.1", head(2, 2)+numbers(1, x, x, 2), [][]int{{1, x}, {x, 2}})
	}
	six := numbers(1, 2, 3, 4, 5, 6) // the head alone tells how they are cut
	parses(t, "P10.1", head(1, 6)+six, [][]int{{1, 2, 3, 4, 5, 6}})
	parses(t, "P10.1", head(2, 3)+six, [][]int{{1, 2, 3}, {4, 5, 6}})
	parses(t, "P10.1", head(3, 2)+six, [][]int{{1, 2}, {3, 4}, {5, 6}})
	parses(t, "P10.1", head(6, 1)+six, [][]int{{1}, {2}, {3}, {4}, {5}, {6}})
}

// TestParseLimits: P10.1, as many vectors and numbers as may be, and none of more, though the bytes are as many.
func TestParseLimits(t *testing.T) {
	zeros := numbers(make([]int, 1<<20)...)
	parses(t, "P10.1", head(1<<20, 1)+zeros, slices.Repeat([][]int{{0}}, 1<<20))
	parses(t, "P10.1", head(256, 4096)+zeros, slices.Repeat([][]int{make([]int, 4096)}, 256))
	parsesNot(t, head(1<<20+1, 1)+zeros+numbers(0))
	parsesNot(t, head(1, 4097)+numbers(rolled(1, 4097)...))
	parsesNot(t, head(16, 65535)+numbers(make([]int, 16*65535)...))
}

// TestParseSize: P10.1, none of what is cut, wherever, and of what goes on.
func TestParseSize(t *testing.T) {
	for _, l := range [][][]int{{{7}}, vectors(1, 3), vectors(3, 1), vectors(4, 5)} {
		s := file(l)
		for at := range len(s) {
			parsesNot(t, s[:at])
			parsesNot(t, s[at+1:])
			parsesNot(t, s[:at]+s[at+1:])
		}
		for _, more := range []string{"\x00", "\x80", "\n", "\x80\x00\x00", numbers(0), numbers(l[0]...), s} {
			parsesNot(t, s+more)
			parsesNot(t, more+s)
		}
	}
}

// TestParseHead: P10.1, none of what has another head, or none.
func TestParseHead(t *testing.T) {
	body := numbers(1, 2, 3, 4, 5, 6)
	for _, first := range []string{
		"", "VEC1", "VEC1\x00\x00\x00\x02", "VEC1\x02\x00\x00\x00\x03\x00", "VEC1\x00\x03\x00\x00\x00\x02",
		"vec1" + head(2, 3)[4:], "VEC2" + head(2, 3)[4:], "VEC" + head(2, 3)[4:], "\x00EC1" + head(2, 3)[4:], "CHAIN1" + head(2, 3)[4:],
		head(0, 0), head(0, 6), head(6, 0), head(1, 1), head(2, 2), head(2, 4), head(3, 3), head(7, 1), head(1, 7), head(1, 5), head(5, 1),
		head(1<<24+2, 3), head(1<<31+2, 3), head(1<<32-2, 3), head(2, 3<<8), head(2, 1<<15+3), head(1<<30+2, 3), head(1<<20, 4096), head(1<<32-1, 1<<16-1),
		head(2, 3) + head(2, 3),
	} {
		parsesNot(t, first+body)
	}
	for _, s := range []string{"", "V", "VEC1", head(0, 0), head(0, 1), head(1, 0), head(1, 1), head(0, 4096), head(1<<20, 0), strings.Repeat("\x00", 14), strings.Repeat("\xff", 14), strings.Repeat("VEC1", 9)} {
		parsesNot(t, s)
	}
}

// TestParseNumbers: P10.1, none, if four bytes are none of a vector's number, wherever they stand.
func TestParseNumbers(t *testing.T) {
	for _, x := range far() {
		for n := 1; n < 4; n++ {
			for d := 1; d < 4; d++ {
				for at := range n * d {
					l := vectors(n, d)
					l[at/d][at%d] = x
					parsesNot(t, file(l))
				}
			}
		}
	}
}

// TestParseBits: P10.1, of every byte of a dataset, whatever stands there: it is one just where its vectors' dataset it is.
func TestParseBits(t *testing.T) {
	for _, l := range [][][]int{{{7}}, {{-1, 1<<24 - 1}}, {{0}, {1 - 1<<24}, {255}}} {
		s := []byte(file(l))
		for at := range s {
			was := s[at]
			for b := range 256 {
				s[at] = byte(b)
				all := l
				ok := b == int(was)
				if at >= Head { // a lone byte of a head tells another shape, but of as many numbers there is no other
					all, ok = told(s, len(l), len(l[0]))
				}
				if ok {
					parses(t, "P10.1", string(s), all)
				} else {
					parsesNot(t, string(s))
				}
			}
			s[at] = was
		}
	}
}

// told answers n vectors of d numbers, whose bytes stand behind the head of s, and true; none and false, if a number is too far.
func told(s []byte, n, d int) ([][]int, bool) {
	var l [][]int
	for i := range n {
		var v []int
		for j := range d {
			x := int(binary.BigEndian.Uint32(s[10+4*(i*d+j):])) - 1<<31
			if x < 1-1<<24 || x > 1<<24-1 {
				return nil, false
			}
			v = append(v, x)
		}
		l = append(l, v)
	}
	return l, true
}

// TestValid: P10.1, what is a dataset.
func TestValid(t *testing.T) {
	for s, want := range map[string]bool{
		"VEC1\x00\x00\x00\x01\x00\x01\x80\x00\x00\x07":     true,
		"VEC1\x00\x00\x00\x01\x00\x01\x80\xff\xff\xff":     true,
		"VEC1\x00\x00\x00\x01\x00\x01\x81\x00\x00\x00":     false,
		"VEC1\x00\x00\x00\x01\x00\x01\x7f\x00\x00\x01":     true,
		"VEC1\x00\x00\x00\x01\x00\x01\x7f\x00\x00\x00":     false,
		"VEC1\x00\x00\x00\x01\x00\x01\x80\x00\x00":         false,
		"VEC1\x00\x00\x00\x01\x00\x01\x80\x00\x00\x07\x00": false,
		"VEC1\x00\x00\x00\x01\x00\x01":                     false,
		"VEC1\x00\x00\x00\x00\x00\x01":                     false,
		"VEC1\x00\x00\x00\x01":                             false,
		"":                                                 false,
	} {
		if got := Valid(s); got != want {
			t.Errorf("P10.1: Valid(%x) = %v", s, got)
		}
	}
}

func shapes(t *testing.T, first string, size, n, d int) {
	t.Helper()
	if gotN, gotD, e := Shape(first, size); e != api.OK || gotN != n || gotD != d {
		t.Errorf("P10.2: Shape(%x, %d) = %d, %d, %d, want %d, %d", first, size, gotN, gotD, e, n, d)
	}
}

func shapesNot(t *testing.T, first string, size int) {
	t.Helper()
	if n, d, e := Shape(first, size); e != api.ErrInput || n != 0 || d != 0 {
		t.Errorf("P10.2: Shape(%x, %d) = %d, %d, %d, want none", first, size, n, d, e)
	}
}

// TestShape: P10.2, what heads say of datasets, the longest ones, too, and just of these.
func TestShape(t *testing.T) {
	shapes(t, "VEC1\x00\x00\x00\x01\x00\x01", 14, 1, 1)
	shapes(t, "VEC1\x00\x00\x01\x02\x03\x04", 10+4*258*772, 258, 772)
	shapes(t, "VEC1\x00\x10\x00\x00\x10\x00", 10+1<<34, 1<<20, 4096)
	for _, n := range []int{1, 2, 3, 255, 256, 257, 65535, 65536, 65537, 1<<20 - 1, 1 << 20} {
		for _, d := range []int{1, 2, 3, 255, 256, 257, 4095, 4096} {
			size := 10 + 4*n*d
			shapes(t, head(n, d), size, n, d)
			for _, other := range []int{math.MinInt, -size, -1, 0, 4 * n * d, 4*n*d + 9, size - 4, size - 1, size + 1, size + 4, size + 4*d, size - 4*d, size - 10, size + 10, size + 1<<32, size + 1<<35, size + math.MinInt, math.MaxInt} {
				shapesNot(t, head(n, d), other)
			}
		}
	}
}

// TestShapeOthers: P10.2, none of a head that says what is no count, or that is none.
func TestShapeOthers(t *testing.T) {
	for _, c := range [][2]int{{0, 0}, {0, 1}, {0, 4096}, {1, 0}, {1 << 20, 0}, {1<<20 + 1, 1}, {1 << 21, 1}, {1 << 24, 1}, {1<<31 - 1, 1}, {1 << 31, 1}, {1<<32 - 1, 1}, {1, 4097}, {1, 8192}, {1, 1 << 15}, {1, 65535}, {1<<20 + 1, 4097}, {1<<32 - 1, 65535}} {
		for _, size := range []int{10 + 4*c[0]*c[1], 0, 10, 14, math.MaxInt} {
			shapesNot(t, head(c[0], c[1]), size)
		}
	}
	for _, first := range []string{
		"", "VEC1", "VEC1\x00\x00\x00\x01\x00", "\x00\x00\x00\x01\x00\x01", head(1, 1) + "\x00", head(1, 1) + numbers(7), "\x00" + head(1, 1), head(1, 1)[1:],
		"vec1\x00\x00\x00\x01\x00\x01", "VEC0\x00\x00\x00\x01\x00\x01", "VEC\x00\x00\x00\x00\x01\x00\x01", "XEC1\x00\x00\x00\x01\x00\x01", strings.Repeat("\x00", 10), strings.Repeat("\xff", 10),
	} {
		for _, size := range []int{0, 10, 13, 14, 15} {
			shapesNot(t, first, size)
		}
	}
}

// TestPlace: P10.2, where vectors begin, and where the last one ends.
func TestPlace(t *testing.T) {
	for _, c := range []struct{ d, i, want int }{
		{1, 0, 10},
		{1, 1, 14},
		{3, 2, 34},
		{4096, 0, 10},
		{4096, 1, 10 + 16384},
		{2, 1000, 8010},
		{1, 1<<20 - 1, 10 + 1<<22 - 4},
		{1, 1 << 20, 10 + 1<<22},
		{4096, 1 << 20, 10 + 1<<34},
	} {
		if got := Place(c.d, c.i); got != c.want {
			t.Errorf("P10.2: Place(%d, %d) = %d, want %d", c.d, c.i, got, c.want)
		}
	}
	for d := 1; d <= 4096; d++ {
		for _, i := range []int{0, 1, 2, 77, 1<<20 - 1, 1 << 20} {
			if got, want := Place(d, i), 10+4*d*i; got != want {
				t.Errorf("P10.2: Place(%d, %d) = %d, want %d", d, i, got, want)
			}
		}
	}
}

// TestPlaceOthers: P10.2, 0 of others.
func TestPlaceOthers(t *testing.T) {
	for _, d := range noDims() {
		for _, i := range []int{math.MinInt, -1, 0, 1, 1 << 20, 1<<20 + 1, math.MaxInt} {
			if got := Place(d, i); got != 0 {
				t.Errorf("P10.2: Place(%d, %d) = %d, want 0", d, i, got)
			}
		}
	}
	for _, d := range []int{1, 2, 4095, 4096} {
		for _, i := range []int{math.MinInt, math.MinInt + 1, -1 << 62, -1 << 20, -2, -1, 1<<20 + 1, 1<<20 + 2, 1 << 21, 1 << 32, 1 << 60, 1 << 62, math.MaxInt} {
			if got := Place(d, i); got != 0 {
				t.Errorf("P10.2: Place(%d, %d) = %d, want 0", d, i, got)
			}
		}
	}
}

func reads(t *testing.T, promise, s string, want []int) {
	t.Helper()
	if got, ok := Vector(s, len(want)); !ok || !slices.Equal(got, want) {
		t.Errorf("%s: Vector(%.60x, %d) = %d, %v, want %d", promise, s, len(want), got, ok, want)
	}
}

func readsNot(t *testing.T, s string, d int) {
	t.Helper()
	if got, ok := Vector(s, d); ok || got != nil {
		t.Errorf("P10.2: Vector(%.60x, %d) of %d bytes = %d, %v, want none", s, d, len(s), got, ok)
	}
}

// TestVector: P10.2, the vectors of their bytes.
func TestVector(t *testing.T) {
	reads(t, "P10.2", "\x80\x00\x00\x07", []int{7})
	reads(t, "P10.2", "\x7f\xff\xff\xff\x80\x00\x01\x02\x80\xff\xff\xff\x7f\x00\x00\x01", []int{-1, 258, 1<<24 - 1, 1 - 1<<24})
	for d := 1; d <= 4096; d += 1 + d/8 {
		v := rolled(uint32(d), d)
		reads(t, "P10.2", numbers(v...), v)
	}
	reads(t, "P10.2", numbers(rolled(3, 4096)...), rolled(3, 4096))
	for _, x := range good() {
		reads(t, "P10.2", numbers(x), []int{x})
		reads(t, "P10.2", numbers(0, x, 1), []int{0, x, 1})
	}
}

// TestVectorSize: P10.2, none of fewer bytes, or more, nor of as many numbers as no vector has.
func TestVectorSize(t *testing.T) {
	for length := range 40 {
		s := numbers(rolled(2, 10)...)[:length]
		for d := -2; d < 12; d++ {
			if d >= 1 && length == 4*d {
				reads(t, "P10.2", s, rolled(2, 10)[:d])
			} else {
				readsNot(t, s, d)
			}
		}
	}
	for _, d := range noDims() {
		for _, s := range []string{"", numbers(7), numbers(rolled(2, 4096)...)} {
			readsNot(t, s, d)
		}
		if 0 < d && d < 1<<17 {
			readsNot(t, numbers(rolled(2, d)...), d)
		}
	}
}

// TestVectorNumbers: P10.2, none, if a number is none such, wherever it stands.
func TestVectorNumbers(t *testing.T) {
	for _, x := range far() {
		for d := 1; d < 6; d++ {
			for at := range d {
				v := rolled(uint32(d), d)
				v[at] = x
				readsNot(t, numbers(v...), d)
			}
		}
	}
	v := rolled(4, 4096)
	v[4095] = 1 << 24
	readsNot(t, numbers(v...), 4096)
}

// TestBack: P10.3, vectors come back, and what they come of is their dataset again.
func TestBack(t *testing.T) {
	for _, l := range sets() {
		s, ok := Lay(l)
		if !ok {
			t.Fatalf("P10.3: %d vectors have no dataset", len(l))
		}
		parses(t, "P10.3", s, l)
		back, _ := Parse(s)
		if again, ok := Lay(back); !ok || again != s {
			t.Errorf("P10.3: the dataset of %d vectors comes back as %.60x, %v", len(l), again, ok)
		}
	}
}

// TestPlaces: P10.3, each vector stands at its place, and the dataset ends where one more would begin.
func TestPlaces(t *testing.T) {
	for _, l := range sets() {
		d := len(l[0])
		s, _ := Lay(l)
		n, dim, e := Shape(s[:Head], len(s))
		if e != api.OK || n != len(l) || dim != d || len(s) != Place(d, n) {
			t.Fatalf("P10.3: a dataset of %d, %d has the shape %d, %d, %d, and %d bytes", len(l), d, n, dim, e, len(s))
		}
		for i, v := range l {
			reads(t, "P10.3", s[Place(d, i):Place(d, i+1)], v)
		}
	}
}

// TestOwn: 0.5, vectors are memory of their own, and so is a dataset.
func TestOwn(t *testing.T) {
	want := [][]int{{1, 2}, {3, 4}, {5, 6}}
	given := []byte(file(want))
	text := unsafe.String(&given[0], len(given))
	l, e := Parse(text)
	v, ok := Vector(text[10:18], 2)
	clear(given)
	if e != api.OK || !same(l, want) || !ok || !slices.Equal(v, want[0]) {
		t.Errorf("0.5: what is parsed hangs on what was given: %d, %d", l, v)
	}
	mine := copied(want)
	s, _ := Lay(mine)
	for _, v := range mine {
		clear(v)
	}
	parses(t, "0.5", s, want)
}

// TestOwnLists: no list of an answer shares memory with another one.
func TestOwnLists(t *testing.T) {
	s := file([][]int{{1, 2}, {1, 2}, {5, 6}})
	l, _ := Parse(s)
	_ = append(l[0], 9)
	clear(l[1])
	_ = append(l[1][:1], 7, 8, 9)
	if !slices.Equal(l[0], []int{1, 2}) || !slices.Equal(l[2], []int{5, 6}) {
		t.Errorf("lists of an answer hang together: %d", l)
	}
	parses(t, "0.5", s, [][]int{{1, 2}, {1, 2}, {5, 6}})
}
