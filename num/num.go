// Package num is layer 1: see shared/doc/01-num.md.
package num

// widest is how far from 0 a number may be that is rounded up, or whose root is taken.
const widest = 1 << 62

// bound is a number that others may not be below or, if it is a top, above.
type bound struct {
	at  int
	top bool
}

func bottom(at int) bound { return bound{at: at} }

func top(at int) bound { return bound{at: at, top: true} }

func (b bound) passedBy(x int) bool {
	if b.top {
		return x > b.at
	}
	return x < b.at
}

// held answers the first bound that x passes, else x. The first one alone
// decides, so that bounds that cross one another have an answer, too.
func held(x int, bounds ...bound) int {
	for _, b := range bounds {
		if b.passedBy(x) {
			return b.at
		}
	}
	return x
}

func within(x int, bounds ...bound) bool { return held(x, bounds...) == x }

// Floor: P1.1.
func Floor(a, b int) int {
	if b < 1 {
		return 0
	}
	if a%b < 0 { // the language rounds towards 0
		return a/b - 1
	}
	return a / b
}

// Rest: P1.1.
func Rest(a, b int) int {
	if b < 1 {
		return 0
	}
	if a%b < 0 {
		return a%b + b
	}
	return a % b
}

// Ceil: P1.1.
func Ceil(a, b int) int {
	if !within(a, bottom(-widest), top(widest)) {
		return 0
	}
	return -Floor(-a, b)
}

// Hold: P1.2.
func Hold(x, low, high int) int { return held(x, bottom(low), top(high)) }

// Add: P1.2.
func Add(a, b, most int) int {
	if min(a, b, most) < 0 {
		return 0
	}
	first := held(a, top(most))
	return first + held(b, top(most-first)) // what is left to the bound: a whole sum may wrap round
}

// Mul: P1.2.
func Mul(a, b, most int) int {
	if min(a, b, most) < 0 || b == 0 {
		return 0
	}
	if top(most / b).passedBy(a) { // the bound is divided: a whole product may wrap round
		return most
	}
	return a * b
}

// Root: P1.2.
func Root(n int) int {
	if !within(n, bottom(0), top(widest)) {
		return 0
	}
	root := 0
	for bit := 1 << 31; bit > 0; bit >>= 1 {
		if next := root | bit; next <= n/next { // a square may wrap round
			root = next
		}
	}
	return root
}
