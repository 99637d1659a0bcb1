package budget

import (
	"math"
	"math/big"
	"testing"

	"chainman/api"
)

// made answers a budget of that bound, of which so many records are in memory.
func made(t *testing.T, bound, now int) *Budget {
	t.Helper()
	b := New(bound)
	if b == nil {
		t.Fatalf("P7.1: New(%d) is nil", bound)
	}
	takes(t, b, now, api.OK)
	return b
}

// takes fails the test, if taking n answers another error.
func takes(t *testing.T, b *Budget, n int, want api.Errno) {
	t.Helper()
	if got := b.Take(n); got != want {
		t.Errorf("P7.1: Take(%d) = %d, want %d", n, got, want)
	}
}

// tells fails the test, if the budget tells other numbers.
func tells(t *testing.T, promise string, b *Budget, now, high, left int) {
	t.Helper()
	if b.Now() != now || b.High() != high || b.Left() != left {
		t.Errorf("%s: now %d, high %d, left %d, want %d, %d, %d", promise, b.Now(), b.High(), b.Left(), now, high, left)
	}
}

// below are numbers below 0.
func below() []int { return []int{-1, -2, -5, -1 << 20, math.MinInt + 1, math.MinInt} }

// bounds are those that a budget may have.
func bounds() []int {
	return []int{0, 1, 2, 5, 19, 1 << 20, 1<<20 + 1, 1 << 32, 1 << 62, math.MaxInt - 1, math.MaxInt}
}

// TestNew: P7.1, nothing is in memory at first.
func TestNew(t *testing.T) {
	for _, m := range bounds() {
		tells(t, "P7.1", made(t, m, 0), 0, 0, m)
	}
}

// TestNewOthers: P7.1, nil of what is below 0.
func TestNewOthers(t *testing.T) {
	for _, m := range below() {
		if b := New(m); b != nil {
			t.Errorf("P7.1: New(%d) = %v, want nil", m, *b)
		}
	}
}

// TestNewOwn: P7.1, budgets have nothing of one another.
func TestNewOwn(t *testing.T) {
	one, other := made(t, 5, 0), made(t, 5, 0)
	takes(t, one, 4, api.OK)
	tells(t, "P7.1", other, 0, 0, 5)
	takes(t, other, 3, api.OK)
	one.Give(4)
	tells(t, "P7.1", one, 0, 4, 5)
	tells(t, "P7.1", other, 3, 3, 2)
}

// TestExample: P7.1, the chapter's.
func TestExample(t *testing.T) {
	b := made(t, 5, 0)
	takes(t, b, 3, api.OK)
	takes(t, b, 3, api.ErrBudget)
	tells(t, "P7.1", b, 3, 3, 2)
}

// TestTake: P7.1, records come, till as many are in memory as may be.
func TestTake(t *testing.T) {
	for _, m := range bounds() {
		b := made(t, m, m)
		tells(t, "P7.1", b, m, m, 0)
		takes(t, b, 0, api.OK)
		tells(t, "P7.1", b, m, m, 0)
	}
	b := made(t, 10, 0)
	for now := 1; now <= 10; now++ {
		takes(t, b, 1, api.OK)
		tells(t, "P7.1", b, now, now, 10-now)
	}
	takes(t, b, 1, api.ErrBudget)
	tells(t, "P7.1", b, 10, 10, 0)
}

// TestTakeNone: P7.1, none may be taken of every budget, and is nothing.
func TestTakeNone(t *testing.T) {
	for _, m := range bounds() {
		b := made(t, m, 0)
		takes(t, b, 0, api.OK)
		tells(t, "P7.1", b, 0, 0, m)
	}
}

// TestTakeBelow: P7.1, fewer than none can't be taken, however full it is.
func TestTakeBelow(t *testing.T) {
	for _, m := range bounds() {
		for _, now := range []int{0, m / 2, m} {
			b := made(t, m, now)
			for _, n := range below() {
				takes(t, b, n, api.ErrArg)
				tells(t, "P7.1", b, now, now, m-now)
			}
		}
	}
}

// TestTakeMore: P7.1, nothing is taken, if there would be more than the bound, by however many.
func TestTakeMore(t *testing.T) {
	for _, m := range bounds() {
		for _, now := range []int{0, m / 3, m / 2, m} {
			b, left := made(t, m, now), m-now
			for _, n := range []int{left + 1, left + 2, 2*left + 7, 1 << 62, math.MaxInt - 1, math.MaxInt, math.MaxInt - now} {
				if n <= left { // it wrapped round, or is not more
					continue
				}
				takes(t, b, n, api.ErrBudget)
				tells(t, "P7.1", b, now, now, left)
			}
			takes(t, b, left, api.OK) // what was refused left all its room
			tells(t, "P7.1", b, m, m, 0)
		}
	}
}

// TestGive: P7.1, fewer are in memory, or none; how many there were at most stays.
func TestGive(t *testing.T) {
	for _, c := range []struct{ bound, now, n, left int }{
		{10, 7, 0, 7},
		{10, 7, 1, 6},
		{10, 7, 6, 1},
		{10, 7, 7, 0},
		{10, 7, 8, 0},
		{10, 7, 10, 0},
		{10, 7, 11, 0},
		{10, 7, math.MaxInt, 0},
		{10, 10, 3, 7},
		{10, 10, 10, 0},
		{10, 0, 0, 0},
		{10, 0, 1, 0},
		{10, 0, math.MaxInt, 0},
		{0, 0, 0, 0},
		{0, 0, 5, 0},
		{0, 0, math.MaxInt, 0},
		{math.MaxInt, math.MaxInt, math.MaxInt, 0},
		{math.MaxInt, math.MaxInt, 1, math.MaxInt - 1},
		{math.MaxInt, 5, math.MaxInt, 0},
		{math.MaxInt, 1 << 62, 1<<62 - 1, 1},
	} {
		b := made(t, c.bound, c.now)
		b.Give(c.n)
		tells(t, "P7.1", b, c.left, c.now, c.bound-c.left)
	}
}

// TestGiveBelow: P7.1, nothing is done, if what is given is below 0.
func TestGiveBelow(t *testing.T) {
	for _, m := range bounds() {
		for _, now := range []int{0, m / 2, m} {
			b := made(t, m, now)
			for _, n := range below() {
				b.Give(n)
				tells(t, "P7.1", b, now, now, m-now)
			}
		}
	}
}

// TestGiveMore: P7.1, what was given beyond what is in memory gives no room beyond the bound.
func TestGiveMore(t *testing.T) {
	b := made(t, 5, 2)
	b.Give(4)
	takes(t, b, 6, api.ErrBudget)
	tells(t, "P7.1", b, 0, 2, 5)
	takes(t, b, 5, api.OK)
	tells(t, "P7.1", b, 5, 5, 0)
}

// TestHigh: P7.1, how many there were at most grows just when there are more than ever.
func TestHigh(t *testing.T) {
	b := made(t, 10, 0)
	for _, c := range []struct {
		take, give      int
		now, high, left int
	}{
		{4, 0, 4, 4, 6},
		{0, 3, 1, 4, 9},
		{2, 0, 3, 4, 7},
		{1, 0, 4, 4, 6},
		{1, 0, 5, 5, 5},
		{0, 5, 0, 5, 10},
		{5, 0, 5, 5, 5},
		{0, 9, 0, 5, 10},
		{10, 0, 10, 10, 0},
		{0, 10, 0, 10, 10},
	} {
		takes(t, b, c.take, api.OK)
		b.Give(c.give)
		tells(t, "P7.1", b, c.now, c.high, c.left)
	}
}

// TestNoBudget: P7.1, what New did not give has no room for any, and none that is given changes that.
func TestNoBudget(t *testing.T) {
	var empty Budget
	for _, b := range []*Budget{nil, {}, &empty, new(Budget), New(-1)} {
		for _, n := range append(below(), 0, 1, 5, 1<<20, math.MaxInt) {
			tells(t, "P7.1", b, 0, 0, 0)
			takes(t, b, n, api.ErrArg)
			tells(t, "P7.1", b, 0, 0, 0)
			b.Give(n)
			tells(t, "P7.1", b, 0, 0, 0)
		}
	}
	if empty != (Budget{}) {
		t.Errorf("P7.1: a budget that New did not give has %v", empty)
	}
}

// plain is a budget that is counted in numbers that do not wrap round.
type plain struct{ bound, now, high *big.Int }

func newPlain(m int) plain {
	return plain{big.NewInt(int64(m)), new(big.Int), new(big.Int)}
}

func (p *plain) take(n int) api.Errno {
	if n < 0 {
		return api.ErrArg
	}
	sum := new(big.Int).Add(p.now, big.NewInt(int64(n)))
	if sum.Cmp(p.bound) > 0 {
		return api.ErrBudget
	}
	p.now = sum
	if sum.Cmp(p.high) > 0 {
		p.high = sum
	}
	return api.OK
}

func (p *plain) give(n int) {
	if n < 0 {
		return
	}
	p.now = new(big.Int).Sub(p.now, big.NewInt(int64(n)))
	if p.now.Sign() < 0 {
		p.now = new(big.Int)
	}
}

// step takes, or gives, n of both budgets, and fails the test, if they are unlike, or there are more than may be.
func step(t *testing.T, b *Budget, p *plain, take bool, n int) {
	t.Helper()
	if take {
		takes(t, b, n, p.take(n))
	} else {
		b.Give(n)
		p.give(n)
	}
	left := new(big.Int).Sub(p.bound, p.now)
	tells(t, "P7.1", b, int(p.now.Int64()), int(p.high.Int64()), int(left.Int64()))
	if bound := int(p.bound.Int64()); b.Now() < 0 || b.Now() > bound || b.High() < b.Now() || b.High() > bound || b.Left() != bound-b.Now() {
		t.Errorf("P7.2: of %d: now %d, high %d, left %d", bound, b.Now(), b.High(), b.Left())
	}
}

// TestNeverMore: P7.2, there are never more than the bound, behind any few calls.
func TestNeverMore(t *testing.T) {
	counts := []int{-1, 0, 1, 2, 3, 4, math.MaxInt}
	kinds := 2 * len(counts)
	for m := range 5 {
		for walk := range kinds * kinds * kinds * kinds {
			b, p := made(t, m, 0), newPlain(m)
			for at := walk; at > 0; at /= kinds {
				kind := at % kinds
				step(t, b, &p, kind%2 == 0, counts[kind/2])
			}
			if t.Failed() {
				t.Fatalf("P7.2: of %d, walk %d", m, walk)
			}
		}
	}
}

// TestNeverMoreFar: P7.2, there are never more than the bound, behind many calls, of numbers near and far.
func TestNeverMoreFar(t *testing.T) {
	seed := uint64(7)
	roll := func() int {
		seed = seed*6364136223846793005 + 1442695040888963407
		return int(seed >> 1)
	}
	for _, m := range bounds() {
		b, p := made(t, m, 0), newPlain(m)
		for range 20000 {
			n := roll() >> (roll() >> 20 % 63) // far ones and near ones alike
			if roll()>>30%8 == 0 {
				n = -n
			}
			if m < math.MaxInt && roll()>>30%2 == 0 {
				n %= m + 1
			}
			step(t, b, &p, roll()>>30%2 == 0, n)
		}
		if t.Failed() {
			t.Fatalf("P7.2: of %d", m)
		}
	}
}
