package dist

import (
	"math"
	"math/big"
	"slices"
	"testing"

	"chainman/api"
)

// far is how far apart two numbers of vectors are at most.
const far = 2 * (1<<24 - 1)

// rolled answers numbers that vectors may have, always the same ones of a seed.
func rolled(seed uint32, length int) []int {
	l := make([]int, length)
	for i := range l {
		seed = seed*1664525 + 1013904223
		l[i] = max(int(seed>>7)-1<<24, 1-1<<24)
	}
	return l
}

// small answers numbers from -3 to 3, always the same ones of a seed.
func small(seed uint32, length int) []int {
	l := rolled(seed, length)
	for i := range l {
		l[i] = (l[i] >> 5) % 4
	}
	return l
}

// all answers as many numbers, each of them x.
func all(x, length int) []int { return slices.Repeat([]int{x}, length) }

// put answers v, but x at one place of it.
func put(v []int, at, x int) []int {
	l := slices.Clone(v)
	l[at] = x
	return l
}

// moved answers v, each number of which has grown by what by has at its place.
func moved(v, by []int) []int {
	l := slices.Clone(v)
	for i := range l {
		l[i] += by[i]
	}
	return l
}

// lengths are numbers of numbers that vectors have.
func lengths() []int {
	return []int{1, 2, 3, 4, 5, 7, 8, 9, 15, 16, 17, 100, 255, 256, 257, 1000, 4095, 4096}
}

// good are numbers that vectors have, at the edges.
func good() []int {
	l := []int{0, 1, -1, 1<<24 - 1, 1<<24 - 2, 1 - 1<<24, 2 - 1<<24}
	for bit := range 24 {
		l = append(l, 1<<bit, -1<<bit)
	}
	return l
}

// bad are numbers that no vector has; the squares of some of them wrap round, to 0 or below.
func bad() []int {
	l := []int{1<<24 + 1, -1<<24 - 1, 1<<25 - 1, 1 - 1<<25, 1<<32 + 1, 3037000499, 3037000500, -3037000500, math.MaxInt, math.MaxInt - 1, math.MinInt + 1, math.MinInt + 1<<24}
	for bit := 24; bit < 63; bit++ {
		l = append(l, 1<<bit, -1<<bit)
	}
	return append(l, math.MinInt)
}

// sum answers the sum of the squares as the document tells it, in numbers that don't wrap round.
func sum(a, b []int) *big.Int {
	whole := new(big.Int)
	for i, x := range a {
		apart := new(big.Int).Sub(big.NewInt(int64(x)), big.NewInt(int64(b[i])))
		whole.Add(whole, apart.Mul(apart, apart))
	}
	return whole
}

func right(t *testing.T, what string, v []int, want bool) {
	t.Helper()
	given := slices.Clone(v)
	if got := Right(v); got != want {
		t.Errorf("P11.1: Right of %s = %v, want %v", what, got, want)
	}
	if !slices.Equal(given, v) {
		t.Errorf("0.5: Right changed %s", what)
	}
}

// TestRight: P11.1, vectors that may be.
func TestRight(t *testing.T) {
	for _, d := range lengths() {
		right(t, "rolled numbers", rolled(uint32(d), d), true)
		for _, x := range good() {
			right(t, "numbers that are alike", all(x, d), true)
		}
	}
	for d := 1; d <= 4096; d++ {
		right(t, "zeros", make([]int, d), true)
	}
}

// TestRightLength: P11.1, none that has no numbers, or more than may be.
func TestRightLength(t *testing.T) {
	right(t, "nil", nil, false)
	right(t, "none", []int{}, false)
	right(t, "none of a list", rolled(1, 4)[:0], false)
	for _, d := range []int{4097, 4098, 8191, 8192, 65535, 65536, 65537, 1 << 20} {
		right(t, "too many zeros", make([]int, d), false)
		right(t, "too many numbers", rolled(1, d), false)
	}
}

// TestRightNumbers: P11.1, none with a number that is too far, wherever it stands.
func TestRightNumbers(t *testing.T) {
	for _, x := range bad() {
		for d := 1; d < 6; d++ {
			for at := range d {
				right(t, "a number that is too far", put(rolled(uint32(d), d), at, x), false)
			}
		}
		for _, at := range []int{0, 1, 2047, 2048, 4094, 4095} {
			right(t, "a number that is too far among many", put(rolled(7, 4096), at, x), false)
		}
	}
}

// asks asks Square, and looks whether it changed what it was given.
func asks(t *testing.T, a, b []int) (int, api.Errno) {
	t.Helper()
	first, second := slices.Clone(a), slices.Clone(b)
	got, e := Square(a, b)
	if !slices.Equal(first, a) || !slices.Equal(second, b) {
		t.Errorf("0.5: Square changed what it was given")
	}
	return got, e
}

func apart(t *testing.T, promise string, a, b []int, want int) {
	t.Helper()
	if got, e := asks(t, a, b); e != api.OK || got != want {
		t.Errorf("%s: Square of %d numbers = %d, %d, want %d", promise, len(a), got, e, want)
	}
}

func apartNot(t *testing.T, what string, a, b []int) {
	t.Helper()
	if got, e := asks(t, a, b); e != api.ErrArg || got != 0 {
		t.Errorf("P11.1: Square of %s = %d, %d, want 0, ErrArg", what, got, e)
	}
}

// within looks whether Within holds from the distance on, and of nothing below it.
func within(t *testing.T, a, b []int, want int) {
	t.Helper()
	first, second := slices.Clone(a), slices.Clone(b)
	for _, eps := range []int{math.MinInt, -1 << 62, -1, 0, 1, want / 2, want - 1, want, want + 1, 2*want + 1, 1<<62 - 1, 1 << 62, 1<<62 + 1, math.MaxInt} {
		if got := Within(a, b, eps); got != (want <= eps) {
			t.Errorf("P11.1: Within of %d numbers that are %d apart, %d = %v", len(a), want, eps, got)
		}
	}
	if !slices.Equal(first, a) || !slices.Equal(second, b) {
		t.Errorf("0.5: Within changed what it was given")
	}
}

func withinNot(t *testing.T, what string, a, b []int) {
	t.Helper()
	for _, eps := range []int{math.MinInt, -1, 0, 1, 1 << 31, 1 << 62, math.MaxInt} {
		if Within(a, b, eps) {
			t.Errorf("P11.1: Within of %s, %d = true", what, eps)
		}
	}
}

// both looks at Square and Within of vectors that have a distance.
func both(t *testing.T, a, b []int, want int) {
	t.Helper()
	apart(t, "P11.1", a, b, want)
	apart(t, "P11.1", b, a, want)
	within(t, a, b, want)
	within(t, b, a, want)
}

// neither looks at Square and Within of such as have none.
func neither(t *testing.T, what string, a, b []int) {
	t.Helper()
	apartNot(t, what, a, b)
	apartNot(t, what, b, a)
	withinNot(t, what, a, b)
	withinNot(t, what, b, a)
}

// TestDistance: P11.1, distances as they are written down.
func TestDistance(t *testing.T) {
	for _, c := range []struct {
		a, b []int
		want int
	}{
		{[]int{1, 2}, []int{4, 6}, 25},
		{[]int{0}, []int{0}, 0},
		{[]int{5}, []int{6}, 1},
		{[]int{0}, []int{-7}, 49},
		{[]int{-3}, []int{4}, 49},
		{[]int{-3}, []int{-4}, 1},
		{[]int{1, 2, 3}, []int{3, 2, 1}, 8},
		{[]int{1, 2, 3}, []int{1, 2, 4}, 1},
		{[]int{9, 2, 3}, []int{1, 2, 3}, 64},
		{[]int{0, 0, 0, 0}, []int{1, -2, 3, -4}, 30},
		{[]int{1<<24 - 1}, []int{0}, 281474943156225},
		{[]int{1<<24 - 1}, []int{1 - 1<<24}, 1125899772624900},
		{[]int{1<<24 - 1, 1 - 1<<24}, []int{1 - 1<<24, 1<<24 - 1}, 2251799545249800},
	} {
		both(t, c.a, c.b, c.want)
	}
}

// TestDistances: P11.1, of many lengths, and of numbers at the edges.
func TestDistances(t *testing.T) {
	for _, d := range lengths() {
		for seed := range uint32(4) {
			a, b := rolled(seed, d), rolled(seed+100, d)
			both(t, a, b, int(sum(a, b).Int64()))
			a, b = small(seed, d), small(seed+100, d)
			both(t, a, b, int(sum(a, b).Int64()))
		}
	}
	for _, x := range good() {
		for _, y := range good() {
			both(t, []int{x}, []int{y}, (x-y)*(x-y))
			both(t, []int{3, x, 5}, []int{1, y, 2}, 4+(x-y)*(x-y)+9)
		}
	}
}

// TestDistancePlaces: P11.1, each number counts, and just once, with the one at its place.
func TestDistancePlaces(t *testing.T) {
	for _, d := range lengths() {
		v := rolled(uint32(d), d)
		for at := range d {
			apart(t, "P11.1", v, put(v, at, 5), (v[at]-5)*(v[at]-5))
		}
	}
	growing := make([]int, 4096)
	for i := range growing {
		growing[i] = i
	}
	both(t, growing, make([]int, 4096), 4095*4096*8191/6)
	both(t, growing[:4095], growing[1:], 4095)
}

// TestDistanceMost: P11.1, the farthest ones, whose distance is below 2^62.
func TestDistanceMost(t *testing.T) {
	high, low := all(1<<24-1, 4096), all(1-1<<24, 4096)
	both(t, high, low, 4096*far*far)
	if most := sum(high, low); most.Cmp(new(big.Int).Lsh(big.NewInt(1), 62)) > 0 {
		t.Fatalf("%s is above 2^62", most)
	}
	for d := 1; d <= 4096; d++ {
		apart(t, "P11.1", high[:d], low[:d], d*far*far)
	}
}

// TestNoneLength: P11.1, none of such as have no numbers, too many, or not as many.
func TestNoneLength(t *testing.T) {
	neither(t, "nil and nil", nil, nil)
	neither(t, "none and none", []int{}, []int{})
	neither(t, "nil and none", nil, []int{})
	neither(t, "nil and one", nil, []int{0})
	neither(t, "none and one", []int{}, []int{0})
	for a := range 8 {
		for b := range a {
			neither(t, "zeros, not as many", make([]int, a), make([]int, b))
			neither(t, "numbers, not as many", rolled(1, a), rolled(1, b))
		}
	}
	neither(t, "4095 and 4096", make([]int, 4095), make([]int, 4096))
	neither(t, "4096 and 4097", make([]int, 4096), make([]int, 4097))
	for _, d := range []int{4097, 4098, 8192, 65536, 65537} {
		neither(t, "too many zeros", make([]int, d), make([]int, d))
		neither(t, "too many numbers", rolled(1, d), rolled(2, d))
		neither(t, "one and too many", []int{0}, make([]int, d))
	}
}

// TestNoneNumbers: P11.1, none with a number that is too far, in one of them or in both, wherever it stands.
func TestNoneNumbers(t *testing.T) {
	for _, x := range bad() {
		for d := 1; d < 6; d++ {
			for at := range d {
				a, b := rolled(uint32(d), d), rolled(uint32(d+9), d)
				neither(t, "a number that is too far", put(a, at, x), b)
				neither(t, "a number that is too far in both", put(a, at, x), put(a, at, x))
				neither(t, "a number that is too far, near to another one", put(make([]int, d), at, x), put(make([]int, d), at, 1<<24-1))
				neither(t, "a number that is too far, and one that is, too", put(a, at, x), put(b, d-1-at, math.MinInt))
				neither(t, "a number that is too far, and zeros", put(make([]int, d), at, x), make([]int, d))
			}
		}
		for _, at := range []int{0, 1, 2048, 4095} {
			neither(t, "a number that is too far among many", put(rolled(7, 4096), at, x), rolled(7, 4096))
		}
	}
}

// TestNoneWhole: P11.1, none of such as have numbers that all are too far, though they are near to one another.
func TestNoneWhole(t *testing.T) {
	for _, x := range bad() {
		for _, d := range []int{1, 2, 3, 4, 4096} {
			neither(t, "numbers that are too far", all(x, d), all(x, d))
			neither(t, "numbers that are too far, and zeros", all(x, d), make([]int, d))
		}
	}
	neither(t, "numbers whose squares wrap round to 0", []int{1 << 32, 1 << 32}, []int{0, 0})
	neither(t, "numbers whose difference wraps round", []int{math.MaxInt}, []int{math.MinInt})
	neither(t, "numbers behind the farthest ones", append(all(1<<24-1, 4095), math.MinInt), append(all(1-1<<24, 4095), 0))
}

// TestWithinLeft: P11.1, numbers behind those that are too far apart bring nothing back.
func TestWithinLeft(t *testing.T) {
	for _, d := range lengths() {
		a, b := make([]int, d), put(make([]int, d), 0, 3)
		within(t, a, b, 9)
		for at := range min(d, 20) {
			within(t, a, put(a, at, 2), 4)
			within(t, b, put(b, at, 7), (b[at]-7)*(b[at]-7))
		}
	}
	if Within([]int{1, 0, math.MinInt}, []int{0, 0, 0}, 0) || Within([]int{0, 0, math.MinInt}, []int{0, 0, 0}, math.MaxInt) {
		t.Errorf("P11.1: Within of a number that is too far = true")
	}
}

// TestPairsLeft: the walk in pairs, in order, which can be left behind each of them.
func TestPairsLeft(t *testing.T) {
	a, b := rolled(1, 9), rolled(2, 9)
	for most := 1; most <= 9; most++ {
		var first, second []int
		for x, y := range pairs(a, b) {
			first, second = append(first, x), append(second, y)
			if len(first) == most {
				break
			}
		}
		if !slices.Equal(first, a[:most]) || !slices.Equal(second, b[:most]) {
			t.Errorf("pairs, left behind %d of them: %d, %d", most, first, second)
		}
	}
}

// TestRightHolds: P11.1, Right tells of which ones there is a distance.
func TestRightHolds(t *testing.T) {
	var lists [][]int
	for _, d := range []int{0, 1, 2, 3, 4095, 4096, 4097} {
		lists = append(lists, rolled(1, d), rolled(2, d), make([]int, d))
		for _, x := range []int{1 << 24, -1 << 24, math.MinInt} {
			if d > 0 {
				lists = append(lists, put(rolled(3, d), d-1, x))
			}
		}
	}
	for _, a := range lists {
		for _, b := range lists {
			want := Right(a) && Right(b) && len(a) == len(b)
			if _, e := Square(a, b); (e == api.OK) != want {
				t.Errorf("P11.1: Square of %d and %d numbers tells %d, want %v", len(a), len(b), e, want)
			}
			if got := Within(a, b, math.MaxInt); got != want {
				t.Errorf("P11.1: Within of %d and %d numbers = %v, want %v", len(a), len(b), got, want)
			}
		}
	}
}

// TestSelf: P11.2, the distance of a vector from itself is 0, also where it is the same list.
func TestSelf(t *testing.T) {
	for _, d := range lengths() {
		for seed := range uint32(4) {
			v := rolled(seed, d)
			apart(t, "P11.2", v, v, 0)
			apart(t, "P11.2", v, slices.Clone(v), 0)
		}
		for _, x := range good() {
			apart(t, "P11.2", all(x, d), all(x, d), 0)
		}
	}
}

// TestOther: P11.2, from another one it is more, however little they are unlike.
func TestOther(t *testing.T) {
	for _, d := range lengths() {
		v := small(uint32(d), d)
		for at := range d {
			for _, step := range []int{1, -1} {
				got, e := Square(v, put(v, at, v[at]+step))
				if e != api.OK || got != 1 {
					t.Errorf("P11.2: Square of vectors that are a step apart = %d, %d", got, e)
				}
			}
		}
		for seed := range uint32(20) {
			other := small(seed, d)
			got, e := Square(v, other)
			if e != api.OK || (got == 0) != slices.Equal(v, other) || got < 0 {
				t.Errorf("P11.2: Square(%.60d, %.60d) = %d, %d", v, other, got, e)
			}
		}
	}
}

// TestBothWays: P11.2, it is the same both ways, where there is none, too.
func TestBothWays(t *testing.T) {
	lists := [][]int{nil, {}, {1 << 24}, {0, math.MinInt}, make([]int, 4097)}
	for _, d := range []int{1, 2, 3, 17, 4096} {
		for seed := range uint32(6) {
			lists = append(lists, rolled(seed, d), small(seed, d))
		}
	}
	for _, a := range lists {
		for _, b := range lists {
			there, e := Square(a, b)
			back, f := Square(b, a)
			if there != back || e != f {
				t.Errorf("P11.2: Square of %d and %d numbers = %d, %d, but the other way %d, %d", len(a), len(b), there, e, back, f)
			}
			for _, eps := range []int{-1, 0, there - 1, there, math.MaxInt} {
				if Within(a, b, eps) != Within(b, a, eps) {
					t.Errorf("P11.2: Within of %d and %d numbers, %d hangs on the way", len(a), len(b), eps)
				}
			}
		}
	}
}

// TestMoved: P11.2, two vectors that are moved alike are as far as they were.
func TestMoved(t *testing.T) {
	for _, d := range lengths() {
		for seed := range uint32(5) {
			a, b, by := small(seed, d), small(seed+50, d), rolled(seed+100, d)
			for i := range by {
				by[i] = max(min(by[i], 1<<24-4), 4-1<<24)
			}
			want, e := Square(a, b)
			if e != api.OK {
				t.Fatalf("P11.2: Square of %d numbers tells %d", d, e)
			}
			apart(t, "P11.2", moved(a, by), moved(b, by), want)
			for _, x := range []int{1, -1, 1<<24 - 4, 4 - 1<<24} {
				apart(t, "P11.2", moved(a, all(x, d)), moved(b, all(x, d)), want)
			}
		}
	}
}
