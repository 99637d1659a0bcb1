package num

import (
	"math"
	"math/big"
	"testing"
)

// edges are numbers about which a sum, a product or a quotient may go wrong.
func edges() []int {
	var l []int
	for _, x := range []int{0, 7, 1 << 31, 1 << 32, 1 << 62} {
		l = append(l, x-1, x, x+1, -x-1, -x, -x+1)
	}
	return append(l, 3, -3, 10, -10, math.MaxInt-1, math.MaxInt, math.MinInt, math.MinInt+1, math.MaxInt/2, math.MaxInt/3)
}

func wide(x int) *big.Int { return big.NewInt(int64(x)) }

type divided struct{ a, b, floor, rest, ceil int }

// TestDivide: P1.1, what is divided, and how it is rounded.
func TestDivide(t *testing.T) {
	for _, c := range []divided{
		{-7, 2, -4, 1, -3},
		{7, 2, 3, 1, 4},
		{6, 2, 3, 0, 3},
		{-6, 2, -3, 0, -3},
		{0, 5, 0, 0, 0},
		{1, 5, 0, 1, 1},
		{-1, 5, -1, 4, 0},
		{-5, 5, -1, 0, -1},
		{9, 1, 9, 0, 9},
		{-9, 1, -9, 0, -9},
		{1 << 62, 1, 1 << 62, 0, 1 << 62},
		{-1 << 62, 1, -1 << 62, 0, -1 << 62},
		{1 << 62, math.MaxInt, 0, 1 << 62, 1},
		{-1 << 62, math.MaxInt, -1, 1<<62 - 1, 0},
		{1<<62 - 1, 1 << 62, 0, 1<<62 - 1, 1},
	} {
		got := divided{c.a, c.b, Floor(c.a, c.b), Rest(c.a, c.b), Ceil(c.a, c.b)}
		if got != c {
			t.Errorf("P1.1: got %v, want %v", got, c)
		}
	}
}

// TestDivideOthers: P1.1, 0 of what is no divisor, and of what is too far to be rounded up.
func TestDivideOthers(t *testing.T) {
	for _, a := range edges() {
		for _, b := range []int{0, -1, -2, math.MinInt} {
			got := divided{a, b, Floor(a, b), Rest(a, b), Ceil(a, b)}
			if want := (divided{a: a, b: b}); got != want {
				t.Errorf("P1.1: got %v, want %v", got, want)
			}
		}
	}
	for _, a := range []int{1<<62 + 1, math.MaxInt, -1<<62 - 1, math.MinInt} {
		for _, b := range []int{1, 2, 1 << 62, math.MaxInt} {
			if got := Ceil(a, b); got != 0 {
				t.Errorf("P1.1: Ceil(%d, %d) = %d, want 0", a, b, got)
			}
		}
	}
}

// TestDivideFar: P1.1, what is rounded down has no bound of its own.
func TestDivideFar(t *testing.T) {
	for _, c := range []struct{ a, b, floor, rest int }{
		{math.MaxInt, 1, math.MaxInt, 0},
		{math.MinInt, 1, math.MinInt, 0},
		{math.MaxInt, 2, 1<<62 - 1, 1},
		{math.MinInt, 2, -1 << 62, 0},
		{math.MinInt, math.MaxInt, -2, math.MaxInt - 1},
		{math.MinInt + 1, math.MaxInt, -1, 0},
		{math.MaxInt, math.MaxInt, 1, 0},
	} {
		if floor, rest := Floor(c.a, c.b), Rest(c.a, c.b); floor != c.floor || rest != c.rest {
			t.Errorf("P1.1: %d by %d: got %d and %d, want %d and %d", c.a, c.b, floor, rest, c.floor, c.rest)
		}
	}
}

// TestHold: P1.2, the lower bound is asked first.
func TestHold(t *testing.T) {
	for _, c := range []struct{ x, low, high, want int }{
		{5, 7, 9, 7},
		{7, 7, 9, 7},
		{8, 7, 9, 8},
		{9, 7, 9, 9},
		{10, 7, 9, 9},
		{-8, -7, 7, -7},
		{8, 8, 8, 8},
		{7, 8, 8, 8},
		{9, 8, 8, 8},
		{1, 9, 3, 9}, // bounds that cross
		{5, 9, 3, 9},
		{9, 9, 3, 3},
		{12, 9, 3, 3},
		{math.MinInt, math.MinInt, math.MaxInt, math.MinInt},
		{math.MaxInt, math.MinInt, math.MaxInt, math.MaxInt},
		{math.MinInt, 0, 0, 0},
		{math.MaxInt, 0, 0, 0},
	} {
		if got := Hold(c.x, c.low, c.high); got != c.want {
			t.Errorf("P1.2: Hold(%d, %d, %d) = %d, want %d", c.x, c.low, c.high, got, c.want)
		}
	}
}

// TestAdd: P1.2.
func TestAdd(t *testing.T) {
	for _, c := range []struct{ a, b, most, want int }{
		{2, 3, 10, 5},
		{2, 3, 5, 5},
		{2, 3, 4, 4},
		{2, 3, 1, 1},
		{2, 3, 0, 0},
		{0, 0, 0, 0},
		{0, 0, 9, 0},
		{20, 0, 9, 9},
		{0, 20, 9, 9},
		{math.MaxInt, math.MaxInt, math.MaxInt, math.MaxInt},
		{math.MaxInt, 1, math.MaxInt, math.MaxInt},
		{math.MaxInt - 1, 1, math.MaxInt, math.MaxInt},
		{1 << 62, 1 << 62, 1 << 62, 1 << 62},
		{-1, 3, 10, 0},
		{3, -1, 10, 0},
		{3, 4, -1, 0},
		{math.MinInt, math.MaxInt, 10, 0},
		{0, math.MinInt, 10, 0},
		{0, 0, math.MinInt, 0},
	} {
		if got := Add(c.a, c.b, c.most); got != c.want {
			t.Errorf("P1.2: Add(%d, %d, %d) = %d, want %d", c.a, c.b, c.most, got, c.want)
		}
	}
}

// TestMul: P1.2.
func TestMul(t *testing.T) {
	for _, c := range []struct{ a, b, most, want int }{
		{1 << 40, 1 << 40, 100, 100},
		{2, 3, 10, 6},
		{2, 3, 6, 6},
		{2, 3, 5, 5},
		{2, 3, 0, 0},
		{0, 3, 10, 0},
		{3, 0, 10, 0},
		{0, 0, 0, 0},
		{0, math.MaxInt, 10, 0},
		{math.MaxInt, 0, 10, 0},
		{1, math.MaxInt, math.MaxInt, math.MaxInt},
		{math.MaxInt, 1, math.MaxInt, math.MaxInt},
		{math.MaxInt, math.MaxInt, math.MaxInt, math.MaxInt},
		{1 << 31, 1 << 31, 1 << 62, 1 << 62},
		{1 << 31, 1<<31 - 1, 1 << 62, 1<<62 - 1<<31},
		{1 << 32, 1 << 32, 1 << 62, 1 << 62},
		{-2, 3, 10, 0},
		{2, -3, 10, 0},
		{-2, -3, 10, 0},
		{2, 3, -1, 0},
		{math.MinInt, math.MinInt, 10, 0},
		{0, 0, math.MinInt, 0},
	} {
		if got := Mul(c.a, c.b, c.most); got != c.want {
			t.Errorf("P1.2: Mul(%d, %d, %d) = %d, want %d", c.a, c.b, c.most, got, c.want)
		}
	}
}

// TestRoot: P1.2, the examples, the ends, and what has no root.
func TestRoot(t *testing.T) {
	for _, c := range []struct{ n, want int }{
		{0, 0}, {1, 1}, {2, 1}, {3, 1}, {4, 2}, {15, 3}, {16, 4}, {17, 4},
		{1<<62 - 1, 1<<31 - 1},
		{1 << 62, 1 << 31},
		{1<<62 + 1, 0},
		{math.MaxInt, 0},
		{-1, 0},
		{-16, 0},
		{math.MinInt, 0},
	} {
		if got := Root(c.n); got != c.want {
			t.Errorf("P1.2: Root(%d) = %d, want %d", c.n, got, c.want)
		}
	}
}

// TestRootSteps: P1.2, the root grows just where a square is.
func TestRootSteps(t *testing.T) {
	want := 0
	for n := range 5000 {
		if (want+1)*(want+1) == n {
			want++
		}
		if got := Root(n); got != want {
			t.Fatalf("P1.2: Root(%d) = %d, want %d", n, got, want)
		}
	}
	for _, x := range []int{3037, 1 << 16, 1<<26 + 1, 94906267, 1<<30 + 7, 1<<31 - 2, 1<<31 - 1} {
		if below, at, above := Root(x*x-1), Root(x*x), Root(x*x+1); below != x-1 || at != x || above != x {
			t.Errorf("P1.2: about the square of %d: %d, %d, %d", x, below, at, above)
		}
	}
}

// TestComesBack: P1.3, what was divided comes back.
func TestComesBack(t *testing.T) {
	try := func(a, b int) {
		floor, rest := Floor(a, b), Rest(a, b)
		if rest < 0 || rest >= b {
			t.Errorf("P1.3: Rest(%d, %d) = %d", a, b, rest)
		}
		back := new(big.Int).Mul(wide(floor), wide(b))
		if back.Add(back, wide(rest)).Cmp(wide(a)) != 0 {
			t.Errorf("P1.3: %d by %d: %d and %d come to %v", a, b, floor, rest, back)
		}
		want := floor
		if rest > 0 {
			want++
		}
		if a >= -1<<62 && a <= 1<<62 && Ceil(a, b) != want {
			t.Errorf("P1.3: Ceil(%d, %d) = %d, want %d", a, b, Ceil(a, b), want)
		}
	}
	for a := -60; a <= 60; a++ {
		for b := 1; b <= 25; b++ {
			try(a, b)
		}
	}
	for _, a := range edges() {
		for _, b := range edges() {
			if b > 0 {
				try(a, b)
			}
		}
	}
}

// TestNeverPast: P1.3, sums and products are what they are below the bound, and never pass it.
func TestNeverPast(t *testing.T) {
	bounded := func(exact *big.Int, most int) int {
		if exact.Cmp(wide(most)) > 0 {
			return most
		}
		return int(exact.Int64())
	}
	for _, a := range edges() {
		for _, b := range edges() {
			for _, most := range edges() {
				sum := bounded(new(big.Int).Add(wide(a), wide(b)), most)
				product := bounded(new(big.Int).Mul(wide(a), wide(b)), most)
				if a < 0 || b < 0 || most < 0 {
					sum, product = 0, 0
				}
				if got := Add(a, b, most); got != sum {
					t.Errorf("P1.3: Add(%d, %d, %d) = %d, want %d", a, b, most, got, sum)
				}
				if got := Mul(a, b, most); got != product {
					t.Errorf("P1.3: Mul(%d, %d, %d) = %d, want %d", a, b, most, got, product)
				}
			}
		}
	}
}
