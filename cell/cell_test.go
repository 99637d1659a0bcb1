package cell

import (
	"math"
	"math/big"
	"slices"
	"testing"

	"chainman/api"
	"chainman/dist"
)

// at answers a place.
func at(x, y int) api.Place { return api.Place{X: x, Y: y} }

// dice answers a function that rolls a number from 0 on, below n, always the same ones of a seed.
func dice(seed uint64) func(n int) int {
	return func(n int) int {
		seed = seed*6364136223846793005 + 1442695040888963407
		return int(seed >> 33 % uint64(n))
	}
}

// widths are widths that may be, those at the edges among them.
func widths() []int {
	l := []int{3, 5, 6, 7, 10, 100, 255, 257, 1000, 46341, 1<<24 - 1, 1<<24 + 1, 1<<31 - 1}
	for bit := range 32 {
		l = append(l, 1<<bit)
	}
	return l
}

// badWidths are widths that may not be.
func badWidths() []int {
	return []int{0, -1, -2, -3, -1 << 24, -1 << 31, 1<<31 + 1, 1<<31 + 2, 1<<32 - 1, 1 << 32, 1<<32 + 1, 1 << 33, 1 << 62, math.MaxInt, math.MinInt, math.MinInt + 1, -math.MaxInt + 2}
}

// coords are numbers that vectors have.
func coords() []int {
	l := []int{0, 1<<24 - 1, 1<<24 - 2, 1 - 1<<24, 2 - 1<<24}
	for n := 1; n <= 12; n++ {
		l = append(l, n, -n)
	}
	for bit := 4; bit < 24; bit++ {
		l = append(l, 1<<bit, 1<<bit-1, 1<<bit+1, -1<<bit, -1<<bit-1, 1-1<<bit)
	}
	return slices.DeleteFunc(l, func(x int) bool { return x <= -1<<24 || x >= 1<<24 })
}

// held: n is x divided by w, rounded down, by what is left then: 0 to w - 1.
func held(n, x, w int) bool { return n*w <= x && x-n*w < w }

// TestOf: P23.1, of numbers of all kinds, as X and as Y.
func TestOf(t *testing.T) {
	for _, w := range widths() {
		for i, x := range coords() {
			y := coords()[(i*7+3)%len(coords())]
			p, ok := Of([]int{x, y, 9}, w)
			if !ok || !held(p.X, x, w) || !held(p.Y, y, w) {
				t.Fatalf("P23.1: Of(%d %d 9, %d) = %v, %v", x, y, w, p, ok)
			}
			if q, ok := Of([]int{x, y}, w); !ok || q != p {
				t.Fatalf("P23.1: Of(%d %d, %d) = %v, %v, want %v, true", x, y, w, q, ok, p)
			}
			if q, ok := Of([]int{x}, w); !ok || q != at(p.X, 0) {
				t.Fatalf("P23.1: Of(%d, %d) = %v, %v, want %v, true", x, w, q, ok, at(p.X, 0))
			}
		}
	}
}

// TestOfEdges: P23.1, the chapter's example, and cells that are told by hand.
func TestOfEdges(t *testing.T) {
	for _, x := range []struct {
		v      []int
		w      int
		wanted api.Place
	}{
		{[]int{-1, 5, 9}, 3, at(-1, 1)}, {[]int{0, 0}, 1, at(0, 0)}, {[]int{-3, -4}, 3, at(-1, -2)}, {[]int{2, 3}, 3, at(0, 1)},
		{[]int{1<<24 - 1, 1 - 1<<24}, 1, at(1<<24-1, 1-1<<24)}, {[]int{1<<24 - 1, 1 - 1<<24}, 1 << 31, at(0, -1)},
		{[]int{-1}, 1 << 31, at(-1, 0)}, {[]int{-7}, 2, at(-4, 0)}, {make([]int, 4096), 5, at(0, 0)},
	} {
		v := slices.Clone(x.v)
		if p, ok := Of(v, x.w); !ok || p != x.wanted {
			t.Errorf("P23.1: Of(%v, %d) = %v, %v, want %v, true", x.v[:min(3, len(x.v))], x.w, p, ok, x.wanted)
		}
		if !slices.Equal(v, x.v) {
			t.Errorf("0.5: Of changed the vector %v to %v", x.v, v)
		}
	}
}

// TestOfWrong: P23.1, zero and false of a vector or a width that may not be.
func TestOfWrong(t *testing.T) {
	late := make([]int, 4096)
	late[4095] = 1 << 24
	for i, v := range [][]int{nil, {}, {1 << 24}, {-1 << 24}, {5, 1 << 24}, {5, 6, -1 << 24}, {math.MaxInt, 1}, {1, math.MinInt}, late, make([]int, 4097)} {
		for _, w := range append(widths(), badWidths()...) {
			if p, ok := Of(v, w); ok || p != at(0, 0) {
				t.Errorf("P23.1: Of(wrong vector %d, %d) = %v, %v, want zero, false", i, w, p, ok)
			}
		}
	}
	for _, w := range badWidths() {
		for _, v := range [][]int{{5, 6}, {-5, 6}, {7}, {0}} {
			if p, ok := Of(v, w); ok || p != at(0, 0) {
				t.Errorf("P23.1: Of(%v, %d) = %v, %v, want zero, false", v, w, p, ok)
			}
		}
	}
}

// TestWays: P23.1, the four ways, always.
func TestWays(t *testing.T) {
	wanted := [4]complex128{complex(1, 0), complex(-1, 1), complex(0, 1), complex(1, 1)}
	got := Ways()
	if got != wanted {
		t.Fatalf("P23.1: Ways() = %v, want %v", got, wanted)
	}
	got[0], got[3] = 7, 7
	if again := Ways(); again != wanted {
		t.Errorf("P23.1: Ways(), what it answered changed = %v, want %v", again, wanted)
	}
}

// numbers are X and Y of places, those at all edges among them.
func numbers() []int {
	l := []int{1 << 62, -1 << 62, math.MaxInt - 2, math.MaxInt - 1, math.MaxInt, math.MinInt, math.MinInt + 1, math.MinInt + 2}
	for n := -3; n <= 3; n++ {
		l = append(l, n, 1<<31+n, -1<<31+n, 1<<32+n, -1<<32+n, 1<<53+n, -1<<53+n)
	}
	return l
}

// apart answers how far apart two numbers are, in one that does not wrap round.
func apart(a, b int) *big.Int {
	far := new(big.Int).Sub(big.NewInt(int64(a)), big.NewInt(int64(b)))
	return far.Abs(far)
}

// besideTold: the document's words.
func besideTold(p, q api.Place) bool {
	one := big.NewInt(1)
	return apart(p.X, q.X).Cmp(one) <= 0 && apart(p.Y, q.Y).Cmp(one) <= 0 && (p.X != q.X || p.Y != q.Y)
}

// TestBeside: P23.1, places near one another and far, at the edges of numbers; the same both ways.
func TestBeside(t *testing.T) {
	for _, x := range numbers() {
		for _, y := range numbers() {
			for _, p := range []api.Place{at(0, 0), at(1, -1), at(math.MaxInt, 0), at(0, math.MinInt), at(math.MinInt, math.MaxInt), at(1<<31-1, -1<<31)} {
				q := at(x, y)
				if got := Beside(p, q); got != besideTold(p, q) {
					t.Errorf("P23.1: Beside(%v, %v) = %v", p, q, got)
				}
				if got := Beside(q, p); got != besideTold(q, p) {
					t.Errorf("P23.1: Beside(%v, %v) = %v", q, p, got)
				}
			}
		}
	}
}

// TestBesideCount: P23.1, each place has eight neighbours.
func TestBesideCount(t *testing.T) {
	for _, p := range []api.Place{at(0, 0), at(-1, 1), at(5, -5), at(1<<31-2, 1-1<<31)} {
		count := 0
		for x := p.X - 5; x <= p.X+5; x++ {
			for y := p.Y - 5; y <= p.Y+5; y++ {
				if Beside(p, at(x, y)) {
					count++
				}
			}
		}
		if count != 8 {
			t.Errorf("P23.1: %v has %d neighbours, want 8", p, count)
		}
	}
}

// TestLess: P23.1, by X, then by Y, whatever the numbers are.
func TestLess(t *testing.T) {
	for _, x := range []struct {
		p, q   api.Place
		wanted bool
	}{
		{at(0, 0), at(0, 0), false}, {at(0, 0), at(0, 1), true}, {at(0, 1), at(0, 0), false}, {at(0, 9), at(1, 0), true}, {at(1, 0), at(0, 9), false},
		{at(-1, 5), at(0, -5), true}, {at(0, -5), at(-1, 5), false}, {at(-2, -3), at(-2, -2), true}, {at(-2, -2), at(-2, -3), false},
		{at(math.MinInt, 0), at(math.MaxInt, 0), true}, {at(math.MaxInt, 0), at(math.MinInt, 0), false}, {at(7, math.MinInt), at(7, math.MaxInt), true}, {at(7, math.MaxInt), at(7, math.MinInt), false},
	} {
		if got := Less(x.p, x.q); got != x.wanted {
			t.Errorf("P23.1: Less(%v, %v) = %v", x.p, x.q, got)
		}
	}
}

// TestLessSorts: P23.1, places that are sorted by Less stand by X, those of one X by Y.
func TestLessSorts(t *testing.T) {
	var sorted []api.Place
	for x := -3; x <= 3; x++ {
		for y := -3; y <= 3; y++ {
			sorted = append(sorted, at(x, y))
		}
	}
	for i, p := range sorted {
		for j, q := range sorted {
			if got := Less(p, q); got != (i < j) {
				t.Errorf("P23.1: Less(%v, %v) = %v", p, q, got)
			}
		}
	}
}

// steps are the ways that a place may be moved by, with what X and Y grow by; the signs of zeros are of both kinds.
func steps() map[complex128]api.Place {
	return map[complex128]api.Place{0: at(0, 0), 1: at(1, 0), -1 + 1i: at(-1, 1), 1i: at(0, 1), 1 + 1i: at(1, 1)}
}

// inside: P23.2, X and Y may be moved.
func inside(n int) bool { return -1<<31+1 <= n && n <= 1<<31-2 }

// TestGo: P23.2, places at all edges, by each way.
func TestGo(t *testing.T) {
	for _, x := range numbers() {
		for _, y := range numbers() {
			for way, by := range steps() {
				wanted, may := at(x+by.X, y+by.Y), inside(x) && inside(y)
				if !may {
					wanted = at(0, 0)
				}
				if got, ok := Go(at(x, y), way); got != wanted || ok != may {
					t.Errorf("P23.2: Go(%v, %v) = %v, %v, want %v, %v", at(x, y), way, got, ok, wanted, may)
				}
			}
		}
	}
}

// TestGoEdges: P23.2, the chapter's words by hand.
func TestGoEdges(t *testing.T) {
	minus := math.Copysign(0, -1)
	for _, x := range []struct {
		p      api.Place
		way    complex128
		wanted api.Place
		ok     bool
	}{
		{at(-1, 1), 1i, at(-1, 2), true}, {at(-1, 1), 1, at(0, 1), true}, {at(-1, -1), 1 + 1i, at(0, 0), true}, {at(0, 0), -1 + 1i, at(-1, 1), true}, {at(3, 4), 0, at(3, 4), true},
		{at(1<<31-2, 1<<31-2), 1 + 1i, at(1<<31-1, 1<<31-1), true}, {at(-1<<31+1, 1<<31-2), -1 + 1i, at(-1<<31, 1<<31-1), true}, {at(-1<<31+1, -1<<31+1), 0, at(-1<<31+1, -1<<31+1), true},
		{at(1<<31-1, 0), 0, at(0, 0), false}, {at(0, 1<<31-1), 1, at(0, 0), false}, {at(-1<<31, 0), 1, at(0, 0), false}, {at(0, -1<<31), 1i, at(0, 0), false}, {at(1<<31-1, 5), -1 + 1i, at(0, 0), false},
		{at(3, 4), complex(1, minus), at(4, 4), true}, {at(3, 4), complex(minus, 1), at(3, 5), true}, {at(3, 4), complex(minus, minus), at(3, 4), true}, {at(0, 0), complex(minus, minus), at(0, 0), true},
	} {
		if got, ok := Go(x.p, x.way); got != x.wanted || ok != x.ok {
			t.Errorf("P23.2: Go(%v, %v) = %v, %v, want %v, %v", x.p, x.way, got, ok, x.wanted, x.ok)
		}
	}
}

// TestGoWrong: P23.2, zero and false of ways that are none of the four, nor 0.
func TestGoWrong(t *testing.T) {
	nan, inf := math.NaN(), math.Inf(1)
	least := math.SmallestNonzeroFloat64
	for _, way := range []complex128{
		-1, -1i, 1 - 1i, -1 - 1i, 2, 2i, 2 + 1i, 1 + 2i, -2 + 1i, -1 + 2i, 0.5, 0.5i, 1 + 0.5i, -1 + 0.5i, 1.5 + 1i, 1e300, -1e300i,
		complex(least, 0), complex(0, least), complex(1, least), complex(math.Nextafter(1, 2), 0), complex(0, math.Nextafter(1, 0)),
		complex(nan, 0), complex(0, nan), complex(nan, nan), complex(1, nan), complex(nan, 1), complex(inf, 0), complex(0, inf), complex(-inf, 1), complex(1, -inf), complex(inf, nan),
	} {
		for _, p := range []api.Place{at(0, 0), at(3, 4), at(-7, 1), at(1<<31-2, 1-1<<31)} {
			if got, ok := Go(p, way); ok || got != at(0, 0) {
				t.Errorf("P23.2: Go(%v, %v) = %v, %v, want zero, false", p, way, got, ok)
			}
		}
	}
}

// fitsTold: the document's words, in numbers that do not wrap round.
func fitsTold(eps, w int) bool {
	wide := big.NewInt(int64(w))
	return 1 <= w && w <= 1<<31 && 0 <= eps && eps <= 1<<62 && wide.Mul(wide, wide).Cmp(big.NewInt(int64(eps))) >= 0
}

// TestFits: P23.2, of each width, squares and what is about them.
func TestFits(t *testing.T) {
	for _, w := range append(widths(), badWidths()...) {
		for _, eps := range []int{0, 1, 2, 8, 9, 10, w*w - 1, w * w, w*w + 1, w, -w * w, -1, -9, 1<<62 - 1, 1 << 62, 1<<62 + 1, math.MaxInt, math.MinInt} {
			if got := Fits(eps, w); got != fitsTold(eps, w) {
				t.Errorf("P23.2: Fits(%d, %d) = %v", eps, w, got)
			}
		}
	}
}

// TestFitsEdges: P23.2, the chapter's words by hand.
func TestFitsEdges(t *testing.T) {
	for _, x := range []struct {
		eps, w int
		wanted bool
	}{
		{9, 3, true}, {10, 3, false}, {0, 1, true}, {1, 1, true}, {2, 1, false}, {0, 0, false}, {0, -1, false}, {1, -1, false}, {-1, 1, false}, {-1, 3, false},
		{1 << 62, 1 << 31, true}, {1 << 62, 1<<31 - 1, false}, {1<<62 + 1, 1 << 31, false}, {0, 1 << 31, true}, {0, 1<<31 + 1, false}, {1 << 62, 1<<31 + 1, false}, {0, 1 << 32, false},
	} {
		if got := Fits(x.eps, x.w); got != x.wanted {
			t.Errorf("P23.2: Fits(%d, %d) = %v", x.eps, x.w, got)
		}
	}
}

// comes answers by how many of the four ways p comes to q.
func comes(p, q api.Place) int {
	count := 0
	for _, way := range Ways() {
		if to, ok := Go(p, way); ok && to == q {
			count++
		}
	}
	return count
}

// TestOneWay: P23.3, of any two places there is one way from one of them to the other, if they are neighbours, and none of others.
func TestOneWay(t *testing.T) {
	for _, p := range []api.Place{at(0, 0), at(-1, 1), at(70000, -70000), at(1<<31-6, 6-1<<31), at(6-1<<31, 1<<31-6)} {
		for x := p.X - 3; x <= p.X+3; x++ {
			for y := p.Y - 3; y <= p.Y+3; y++ {
				q, wanted := at(x, y), 0
				if Beside(p, q) {
					wanted = 1
				}
				if got := comes(p, q) + comes(q, p); got != wanted {
					t.Errorf("P23.3: %d ways between %v and %v, want %d", got, p, q, wanted)
				}
			}
		}
	}
}

// TestWaysLead: P23.3, each way leads to a neighbour, and to a place that comes behind or lies a row above.
func TestWaysLead(t *testing.T) {
	for _, p := range []api.Place{at(0, 0), at(-1, 0), at(0, -1), at(-1, -1), at(1<<31-2, 1<<31-2), at(1-1<<31, 1-1<<31)} {
		for _, way := range Ways() {
			if q, ok := Go(p, way); !ok || !Beside(p, q) || q.Y < p.Y || q.Y == p.Y && Less(q, p) {
				t.Errorf("P23.3: Go(%v, %v) = %v, %v: no neighbour, or one behind", p, way, q, ok)
			}
		}
		if q, ok := Go(p, 0); !ok || q != p || Beside(p, q) {
			t.Errorf("P23.2: Go(%v, 0) = %v, %v", p, q, ok)
		}
	}
}

// together: P23.4, v and u are in one cell, or in neighbours.
func together(v, u []int, w int) bool {
	p, ok := Of(v, w)
	q, is := Of(u, w)
	return ok && is && (p == q || Beside(p, q))
}

// TestNear: P23.4, vectors about one another, of each width that fits and each distance.
func TestNear(t *testing.T) {
	roll := dice(23)
	for range 20000 {
		w, size := 1+roll(9), 1+roll(4)
		v, u := make([]int, size), make([]int, size)
		for i := range v {
			v[i] = roll(41) - 20
			u[i] = v[i] + roll(2*w+3) - w - 1
		}
		far, _ := dist.Square(v, u)
		if Fits(far, w) && !together(v, u, w) {
			t.Fatalf("P23.4: %v and %v, %d from one another, are far from one another by cells of %d", v, u, far, w)
		}
	}
}

// TestNearEdges: P23.4, vectors that are as far from one another as a width is, at all numbers; one farther, a cell may lie between.
func TestNearEdges(t *testing.T) {
	for _, w := range widths() {
		for _, x := range coords() {
			if x+w >= 1<<24 {
				continue
			}
			for _, two := range [][2][]int{{{x}, {x + w}}, {{x, x}, {x + w, x}}, {{x, x}, {x, x + w}}, {{-x, 5, 6}, {-x - w, 5, 6}}} {
				if !dist.Within(two[0], two[1], w*w) || !together(two[0], two[1], w) {
					t.Errorf("P23.4: %v and %v are far from one another by cells of %d", two[0], two[1], w)
				}
			}
		}
		if w < 1<<22 && (Fits((w+1)*(w+1), w) || together([]int{w - 1}, []int{2 * w}, w)) {
			t.Errorf("P23.4: %d and %d, farther than %d, have cells %d wide with one between", w-1, 2*w, w, w)
		}
	}
}
