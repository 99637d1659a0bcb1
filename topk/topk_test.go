package topk

import (
	"cmp"
	"math"
	"slices"
	"testing"

	"chainman/api"
)

// at answers a near one that far away.
func at(dist, id int) api.Near { return api.Near{Dist: dist, Id: id} }

// fresh answers one that is New.
func fresh(dist, id int) api.Near { return api.Near{Dist: dist, Id: id, New: true} }

// sizes are as many as a list may be asked to have.
func sizes() []int { return []int{1, 2, 3, 4, 5, 7, 8, 9, 31, 32, 33, 63, 64} }

// noSizes are numbers that no list may be asked to have.
func noSizes() []int {
	return []int{math.MinInt, math.MinInt + 1, -64, -1, 0, 65, 66, 128, 1 << 32, 1<<32 + 5, math.MaxInt - 1, math.MaxInt}
}

// edges are near ones at the edges of what may be.
func edges() []api.Near {
	return []api.Near{at(0, 0), fresh(0, 0), at(1<<62, 0), at(1<<62, 1<<20-1), at(0, 1<<20-1), at(1<<62-1, 1<<20-2), fresh(1, 1)}
}

// wrong are such as are no near ones.
func wrong() []api.Near {
	return []api.Near{
		at(-1, 3), at(math.MinInt, 3), at(1<<62+1, 3), at(math.MaxInt, 3),
		at(3, -1), at(3, math.MinInt), at(3, 1<<20), at(3, 1<<20+1), at(3, 1<<32), at(3, math.MaxInt),
		at(-1, -1), at(math.MaxInt, math.MaxInt), at(math.MinInt, math.MinInt), fresh(0, 1<<20), fresh(-1, 0),
	}
}

// rolled answers near ones, always the same ones of a seed: their Dist below far, their Id below ids.
func rolled(seed uint32, length, far, ids int) []api.Near {
	l := make([]api.Near, length)
	next := func(below int) int {
		seed = seed*1664525 + 1013904223
		return int(seed>>8) % below
	}
	for i := range l {
		l[i] = api.Near{Dist: next(far), Id: next(ids), New: next(2) == 1}
	}
	return l
}

// row answers a right list of as many, whose Ids go up by one and whose Dists by two, from 10 on.
func row(length int) []api.Near {
	l := make([]api.Near, length)
	for i := range l {
		l[i] = api.Near{Dist: 10 + 2*i, Id: 100 + i, New: i%3 == 0}
	}
	return l
}

// with answers l, but x at one place of it.
func with(l []api.Near, place int, x api.Near) []api.Near {
	other := slices.Clone(l)
	other[place] = x
	return other
}

// nearer tells which of two comes first, as the Words have it.
func nearer(a, b api.Near) bool {
	return cmp.Or(cmp.Compare(a.Dist, b.Dist), cmp.Compare(a.Id, b.Id)) < 0
}

// may tells whether it is a near one, as the Words have it.
func may(x api.Near) bool {
	return x.Dist >= 0 && x.Dist <= 1<<62 && x.Id >= 0 && x.Id <= 1<<20-1
}

// fit tells whether a list is right, as the Words have it.
func fit(l []api.Near, k int) bool {
	if k < 1 || k > 64 || len(l) > k {
		return false
	}
	ids := map[int]int{}
	for i, x := range l {
		ids[x.Id]++
		if !may(x) || ids[x.Id] > 1 || i > 0 && !nearer(l[i-1], x) {
			return false
		}
	}
	return true
}

// told puts as P12.1 tells it: what is there and x are sorted, and the last one goes.
func told(l []api.Near, k int, x api.Near) ([]api.Near, bool) {
	before := 0
	for _, y := range l {
		if y.Id == x.Id {
			return l, false
		}
		if nearer(y, x) {
			before++
		}
	}
	if !fit(l, k) || !may(x) || before >= k {
		return l, false
	}
	l = append(slices.Clone(l), x)
	slices.SortFunc(l, func(a, b api.Near) int {
		return cmp.Or(cmp.Compare(a.Dist, b.Dist), cmp.Compare(a.Id, b.Id))
	})
	return l[:min(k, len(l))], true
}

func less(t *testing.T, a, b api.Near, want bool) {
	t.Helper()
	if got := Less(a, b); got != want {
		t.Errorf("P12.1: Less(%v, %v) = %v", a, b, got)
	}
}

// TestLess: P12.1, the less Dist, or, of one, the less Id; New counts for nothing.
func TestLess(t *testing.T) {
	less(t, at(1, 7), at(9, 2), true)
	less(t, at(9, 2), at(1, 7), false)
	less(t, at(9, 2), at(9, 5), true)
	less(t, at(9, 5), at(9, 2), false)
	less(t, at(9, 5), at(9, 5), false)
	less(t, at(9, 5), fresh(9, 5), false)
	less(t, fresh(9, 5), at(9, 5), false)
	less(t, fresh(9, 2), at(9, 5), true)
	less(t, at(9, 2), fresh(9, 5), true)
	less(t, at(0, 1<<20-1), at(1, 0), true)
	less(t, at(1<<62-1, 1<<20-1), at(1<<62, 0), true)
	all := slices.Concat(edges(), wrong(), rolled(1, 60, 5, 5))
	for _, a := range all {
		for _, b := range all {
			less(t, a, b, nearer(a, b))
		}
	}
}

func right(t *testing.T, what string, l []api.Near, k int, want bool) {
	t.Helper()
	given := slices.Clone(l)
	if got := Right(l, k); got != want {
		t.Errorf("P12.1: Right of %s, %d of %d = %v", what, len(l), k, got)
	}
	if !slices.Equal(given, l) {
		t.Errorf("0.5: Right changed %s", what)
	}
}

// TestRight: P12.1, lists that are right, up to as many as they may have.
func TestRight(t *testing.T) {
	for _, k := range sizes() {
		right(t, "nil", nil, k, true)
		right(t, "none", []api.Near{}, k, true)
		for length := range k + 1 {
			right(t, "a row", row(length), k, true)
		}
		right(t, "one more", row(k+1), k, false)
		right(t, "many more", row(3*k+40), k, false)
		for _, x := range edges() {
			right(t, "one at the edge", []api.Near{x}, k, true)
		}
	}
	right(t, "one Dist", []api.Near{at(9, 2), fresh(9, 3), at(9, 5)}, 3, true)
	right(t, "Ids that go down", []api.Near{at(1, 9), at(2, 8), fresh(3, 7)}, 3, true)
	right(t, "edges", []api.Near{at(0, 0), at(0, 1), at(1<<62, 2), at(1<<62, 1<<20-1)}, 4, true)
}

// TestRightSize: P12.1, none is right for a k that may not be.
func TestRightSize(t *testing.T) {
	for _, k := range noSizes() {
		for length := range 4 {
			right(t, "a row", row(length), k, false)
		}
		right(t, "a long row", row(65), k, false)
	}
}

// TestRightNot: P12.1, lists with one fault, wherever it is.
func TestRightNot(t *testing.T) {
	for _, k := range sizes() {
		l := row(k)
		for place := range k {
			for _, x := range wrong() {
				right(t, "a wrong one", with(l, place, x), k, false)
			}
			for other := range place {
				right(t, "an Id twice", with(l, place, at(l[place].Dist, l[other].Id)), k, false)
			}
			if place == 0 {
				continue
			}
			right(t, "one twice", with(l, place, l[place-1]), k, false)
			right(t, "a Dist that goes down", with(l, place, at(l[place-1].Dist-1, 7)), k, false)
			right(t, "an Id that goes down", with(l, place, at(l[place-1].Dist, 7)), k, false)
			right(t, "an Id that goes up", with(l, place, at(l[place-1].Dist, 700)), k, true)
		}
	}
	right(t, "a list that goes down", []api.Near{at(3, 1), at(2, 2)}, 2, false)
	right(t, "one twice, once New", []api.Near{at(3, 1), fresh(3, 1)}, 2, false)
}

// TestHas: P12.1, one of that Id, in lists that are right and in others.
func TestHas(t *testing.T) {
	for _, length := range []int{0, 1, 2, 3, 64, 65, 300} {
		l := row(length)
		for id := 90; id < 110+length; id++ {
			if got, want := Has(l, id), 100 <= id && id < 100+length; got != want {
				t.Errorf("P12.1: Has of %d, %d = %v", length, id, got)
			}
		}
		if !slices.Equal(l, row(length)) {
			t.Errorf("0.5: Has changed %d", length)
		}
	}
	l := slices.Concat(wrong(), rolled(5, 50, 9, 9), edges())
	for _, id := range []int{math.MinInt, math.MinInt + 1, -2, -1, 0, 1, 5, 8, 9, 10, 1<<20 - 3, 1<<20 - 1, 1 << 20, 1<<20 + 2, math.MaxInt - 1, math.MaxInt} {
		want := false
		for _, x := range l {
			want = want || x.Id == id
		}
		if got := Has(l, id); got != want {
			t.Errorf("P12.1: Has(.., %d) = %v, want %v", id, got, want)
		}
	}
	if Has(nil, 0) || Has([]api.Near{at(7, 1)}, 7) || !Has([]api.Near{fresh(7, 1)}, 1) {
		t.Errorf("P12.1: Has of none, or of one")
	}
}

// alone looks whether got is memory of its own: what is written into it, and behind it, is not seen in l.
func alone(t *testing.T, what string, got, l []api.Near) {
	t.Helper()
	kept := slices.Clone(l[:cap(l)])
	for i := range got[:cap(got)] {
		got[:cap(got)][i] = at(-77, -77)
	}
	if !slices.Equal(kept, l[:cap(l)]) {
		t.Errorf("0.5: %s shares memory with what it was given", what)
	}
}

// puts looks at one Put, of a list with room behind it.
func puts(t *testing.T, l []api.Near, k int, x api.Near, want []api.Near, took bool) {
	t.Helper()
	room := slices.Concat(l, []api.Near{at(-5, -5), at(-6, -6)})
	given := slices.Clone(room)
	got, ok := Put(room[:len(l)], k, x)
	if ok != took || !slices.Equal(got, want) {
		t.Errorf("P12.1: Put(%v, %d, %v) = %v, %v, want %v, %v", l, k, x, got, ok, want, took)
	}
	if !slices.Equal(given, room) {
		t.Errorf("0.5: Put(%v, %d, %v) changed what it was given", l, k, x)
	}
	alone(t, "Put", got, room[:len(l)])
}

// TestPut: P12.1, as it is written down.
func TestPut(t *testing.T) {
	l := []api.Near{at(1, 7), fresh(9, 2), at(9, 5)}
	puts(t, nil, 1, at(4, 4), []api.Near{at(4, 4)}, true)
	puts(t, nil, 64, fresh(4, 4), []api.Near{fresh(4, 4)}, true)
	puts(t, []api.Near{}, 2, at(0, 0), []api.Near{at(0, 0)}, true)
	puts(t, l, 4, at(1, 6), []api.Near{at(1, 6), at(1, 7), fresh(9, 2), at(9, 5)}, true)
	puts(t, l, 4, fresh(1, 8), []api.Near{at(1, 7), fresh(1, 8), fresh(9, 2), at(9, 5)}, true)
	puts(t, l, 4, at(9, 3), []api.Near{at(1, 7), fresh(9, 2), at(9, 3), at(9, 5)}, true)
	puts(t, l, 4, at(9, 6), []api.Near{at(1, 7), fresh(9, 2), at(9, 5), at(9, 6)}, true)
	puts(t, l, 3, at(1, 6), []api.Near{at(1, 6), at(1, 7), fresh(9, 2)}, true)
	puts(t, l, 3, fresh(9, 3), []api.Near{at(1, 7), fresh(9, 2), fresh(9, 3)}, true)
	puts(t, l, 3, at(9, 6), l, false)
	puts(t, l, 3, at(10, 0), l, false)
	puts(t, []api.Near{at(5, 5)}, 1, at(5, 4), []api.Near{at(5, 4)}, true)
	puts(t, []api.Near{at(5, 5)}, 1, at(5, 6), []api.Near{at(5, 5)}, false)
	puts(t, []api.Near{at(5, 5)}, 1, fresh(5, 5), []api.Near{at(5, 5)}, false)
}

// TestPutThere: P12.1, one whose Id is there stays out, be it nearer, farther, or New.
func TestPutThere(t *testing.T) {
	for _, k := range sizes() {
		for _, length := range []int{1, k/2 + 1, k} {
			l := row(length)
			for _, y := range l {
				for _, dist := range []int{0, 9, y.Dist - 1, y.Dist, y.Dist + 1, 1 << 40, 1 << 62} {
					puts(t, l, k, api.Near{Dist: dist, Id: y.Id, New: !y.New}, l, false)
					puts(t, l, k, api.Near{Dist: dist, Id: y.Id, New: y.New}, l, false)
				}
			}
		}
	}
}

// TestPutPlace: P12.1, at each place of a list of each length, with and without room for it.
func TestPutPlace(t *testing.T) {
	for _, length := range sizes() {
		l := row(length)
		for place := range length + 1 {
			for _, x := range []api.Near{fresh(9+2*place, 5), at(10+2*place, 5), fresh(8+2*place, 500)} {
				whole := slices.Insert(slices.Clone(l), place, x)
				if length < 64 {
					puts(t, l, length+1, x, whole, true)
					puts(t, l, 64, x, whole, true)
				}
				puts(t, l, length, x, whole[:length], place < length)
			}
		}
	}
}

// TestPutOthers: P12.1, l and false of a list that is not right, and of what is no near one.
func TestPutOthers(t *testing.T) {
	for _, k := range noSizes() {
		for length := range 4 {
			puts(t, row(length), k, at(11, 5), row(length), false)
		}
	}
	for _, k := range sizes() {
		for _, x := range wrong() {
			puts(t, nil, k, x, nil, false)
			puts(t, row(k-1), k, x, row(k-1), false)
			puts(t, row(k), k, x, row(k), false)
			puts(t, []api.Near{x}, k, at(11, 5), []api.Near{x}, false)
		}
		puts(t, row(k+1), k, at(0, 5), row(k+1), false)
		puts(t, row(k+70), k, at(0, 5), row(k+70), false)
	}
	for _, l := range [][]api.Near{{at(2, 1), at(1, 2)}, {at(2, 1), at(3, 1)}, {at(2, 1), at(2, 1)}, {at(2, 2), at(2, 1)}} {
		puts(t, l, 2, at(0, 5), l, false)
		puts(t, l, 9, at(0, 5), l, false)
	}
}

// TestPutMany: P12.1, lists that grow, each of them held against what the document tells.
func TestPutMany(t *testing.T) {
	for _, k := range sizes() {
		for seed := range uint32(12) {
			far, ids := []int{1, 3, 40, 1 << 20}[seed%4], []int{2, k + 1, 2 * k, 1 << 20}[seed/3]
			var l []api.Near
			for _, x := range rolled(seed, 200, far, ids) {
				want, took := told(l, k, x)
				puts(t, l, k, x, want, took)
				l, _ = Put(l, k, x)
				right(t, "what was put", l, k, true)
			}
		}
	}
}

// merges looks at one Merge, of lists with room behind them.
func merges(t *testing.T, a, b []api.Near, k int, want []api.Near, came int) {
	t.Helper()
	room, more := slices.Concat(a, []api.Near{at(-5, -5)}), slices.Concat(b, []api.Near{at(-6, -6)})
	first, second := slices.Clone(room), slices.Clone(more)
	got, count := Merge(room[:len(a)], more[:len(b)], k)
	if count != came || !slices.Equal(got, want) {
		t.Errorf("P12.2: Merge(%v, %v, %d) = %v, %d, want %v, %d", a, b, k, got, count, want, came)
	}
	if !slices.Equal(first, room) || !slices.Equal(second, more) {
		t.Errorf("0.5: Merge(%v, %v, %d) changed what it was given", a, b, k)
	}
	alone(t, "Merge", got, room[:len(a)])
	got, _ = Merge(room[:len(a)], more[:len(b)], k)
	alone(t, "Merge", got, more[:len(b)])
}

// mergedAs answers what P12.2 tells of a list that is right.
func mergedAs(a, b []api.Near, k int) ([]api.Near, int) {
	l := a
	for _, x := range b {
		l, _ = told(l, k, x)
	}
	had := map[int]int{}
	for _, x := range a {
		had[x.Id] = 1
	}
	came := len(l)
	for _, x := range l {
		came -= had[x.Id]
	}
	return l, came
}

// TestMerge: P12.2, as it is written down.
func TestMerge(t *testing.T) {
	a := []api.Near{at(1, 7), at(9, 2), fresh(9, 5)}
	merges(t, nil, nil, 1, nil, 0)
	merges(t, a, nil, 3, a, 0)
	merges(t, nil, a, 3, a, 3)
	merges(t, nil, a, 2, a[:2], 2)
	merges(t, a, a, 3, a, 0)
	merges(t, a, []api.Near{fresh(0, 7), fresh(0, 2), at(0, 5)}, 3, a, 0)
	merges(t, a, []api.Near{fresh(2, 1), at(3, 8)}, 5, []api.Near{at(1, 7), fresh(2, 1), at(3, 8), at(9, 2), fresh(9, 5)}, 2)
	merges(t, a, []api.Near{fresh(2, 1), at(3, 8)}, 3, []api.Near{at(1, 7), fresh(2, 1), at(3, 8)}, 2)
	merges(t, a, []api.Near{fresh(9, 4), at(9, 6), at(10, 0)}, 3, []api.Near{at(1, 7), at(9, 2), fresh(9, 4)}, 1)
	merges(t, a, wrong(), 3, a, 0)
	merges(t, a, wrong(), 64, a, 0)
	merges(t, nil, slices.Concat(wrong(), a, wrong()), 3, a, 3)
}

// TestMergeCount: P12.2, told are the Ids that it has, not how often one was put.
func TestMergeCount(t *testing.T) {
	a := []api.Near{at(5, 1), at(6, 2)}
	// 3 is put, and makes room for 4.
	merges(t, a, []api.Near{at(4, 3), at(3, 4), at(2, 5)}, 2, []api.Near{at(2, 5), at(3, 4)}, 2)
	// 2 makes room for 3, and comes back nearer than it was: it was had.
	merges(t, a, []api.Near{at(4, 3), fresh(1, 2)}, 2, []api.Near{fresh(1, 2), at(4, 3)}, 1)
	// both come back.
	merges(t, a, []api.Near{at(4, 3), at(3, 4), fresh(2, 1), fresh(1, 2)}, 2, []api.Near{fresh(1, 2), fresh(2, 1)}, 0)
	// 3 makes room for 4, and comes back: it counts once.
	merges(t, a[:1], []api.Near{at(4, 3), at(3, 4), at(2, 3)}, 1, []api.Near{at(2, 3)}, 1)
}

// TestMergeOrder: P12.2, they are put in order: of one Id the first one that is put stays.
func TestMergeOrder(t *testing.T) {
	near, far := at(1, 3), fresh(8, 3)
	merges(t, row(2), []api.Near{near, far}, 5, slices.Concat([]api.Near{near}, row(2)), 1)
	merges(t, row(2), []api.Near{far, near}, 5, slices.Concat([]api.Near{far}, row(2)), 1)
	merges(t, nil, []api.Near{far, near}, 1, []api.Near{far}, 1)
	merges(t, nil, []api.Near{far, at(2, 4), near}, 1, []api.Near{near}, 1)
}

// TestMergeOthers: P12.2, a and 0 of a list that is not right.
func TestMergeOthers(t *testing.T) {
	b := []api.Near{at(0, 1), at(0, 2)}
	for _, k := range noSizes() {
		for length := range 4 {
			merges(t, row(length), b, k, row(length), 0)
		}
		merges(t, nil, nil, k, nil, 0)
	}
	for _, k := range sizes() {
		merges(t, row(k+1), b, k, row(k+1), 0)
		for _, x := range wrong() {
			l := with(row(k), k-1, x)
			merges(t, l, b, k, l, 0)
			merges(t, l, nil, k, l, 0)
		}
	}
	for _, l := range [][]api.Near{{at(2, 5), at(1, 6)}, {at(2, 5), at(3, 5)}, {at(2, 6), at(2, 5)}} {
		merges(t, l, b, 2, l, 0)
		merges(t, l, b, 9, l, 0)
	}
}

// TestMergeMany: P12.2, many lists, some of which have wrong ones between.
func TestMergeMany(t *testing.T) {
	for _, k := range sizes() {
		for seed := range uint32(24) {
			far, ids := []int{1, 3, 40, 1 << 20}[seed%4], []int{2, k + 1, 2 * k, 1 << 20}[seed/6]
			a := Best(rolled(seed, int(seed)*k/12, 2*far, ids), k)
			b := slices.Concat(rolled(seed+50, k, far, ids), wrong(), edges(), rolled(seed+99, k/2, far+9, ids))
			want, came := mergedAs(a, b, k)
			merges(t, a, b, k, want, came)
			want, came = mergedAs(a, a, k)
			merges(t, a, a, k, want, came)
		}
	}
}

func best(t *testing.T, promise string, l []api.Near, k int, want []api.Near) {
	t.Helper()
	given := slices.Clone(l)
	got := Best(l, k)
	if !slices.Equal(got, want) {
		t.Errorf("%s: Best(%v, %d) = %v, want %v", promise, l, k, got, want)
	}
	alone(t, "Best", got, l)
	if !slices.Equal(given, l) {
		t.Errorf("0.5: Best(.., %d) changed what it was given", k)
	}
}

// TestBest: P12.2, each put into a list that has none.
func TestBest(t *testing.T) {
	best(t, "P12.2", []api.Near{at(9, 5), at(9, 2), at(1, 7)}, 2, []api.Near{at(1, 7), at(9, 2)})
	best(t, "P12.2", []api.Near{at(9, 5), fresh(9, 2), at(1, 7)}, 64, []api.Near{at(1, 7), fresh(9, 2), at(9, 5)})
	best(t, "P12.2", []api.Near{at(9, 5), fresh(3, 5)}, 2, []api.Near{at(9, 5)})
	best(t, "P12.2", []api.Near{at(9, 5), at(4, 6), fresh(3, 5)}, 1, []api.Near{fresh(3, 5)})
	for _, k := range sizes() {
		best(t, "P12.2", nil, k, nil)
		best(t, "P12.2", wrong(), k, nil)
		best(t, "P12.2", row(200), k, row(200)[:k])
		for seed := range uint32(12) {
			l := slices.Concat(rolled(seed, 150, 9, 30), wrong(), rolled(seed+7, 150, 9, 100))
			want, _ := mergedAs(nil, l, k)
			best(t, "P12.2", l, k, want)
		}
	}
	for _, k := range noSizes() {
		best(t, "P12.2", nil, k, nil)
		best(t, "P12.2", row(3), k, nil)
		best(t, "P12.2", row(70), k, nil)
	}
}

// orders calls do with each order of l.
func orders(l []api.Near, do func([]api.Near)) {
	var turn func(done int)
	turn = func(done int) {
		if done == len(l) {
			do(l)
			return
		}
		for i := done; i < len(l); i++ {
			l[done], l[i] = l[i], l[done]
			turn(done + 1)
			l[done], l[i] = l[i], l[done]
		}
	}
	turn(0)
}

// TestOrders: P12.3, put in any order, of Ids that are put once the nearest are there.
func TestOrders(t *testing.T) {
	for _, l := range [][]api.Near{
		{at(1, 1), at(2, 0), at(3, 5), fresh(4, 4), at(5, 3), at(6, 2)},
		{at(0, 0), at(0, 1), fresh(0, 2), at(0, 3), at(0, 4), at(0, 5)},
		{at(0, 9), fresh(3, 1), at(3, 2), at(3, 1<<20-1), at(1<<62, 0), at(1<<62, 7)},
	} {
		sorted := slices.Clone(l)
		for k := 1; k <= 7; k++ {
			orders(l, func(some []api.Near) { best(t, "P12.3", some, k, sorted[:min(k, len(sorted))]) })
		}
	}
}

// TestNearest: P12.3, none that is nearer than the last one is missing, unless one of its Id was put.
func TestNearest(t *testing.T) {
	for _, k := range sizes() {
		for seed := range uint32(40) {
			l := rolled(seed, 300, []int{5, 100, 1 << 20}[seed%3], []int{k, 2 * k, 500, 1 << 20}[seed%4])
			got := Best(l, k)
			for i, x := range l {
				twice := slices.ContainsFunc(slices.Concat(l[:i], l[i+1:]), func(y api.Near) bool { return y.Id == x.Id })
				nearest := len(got) < k || nearer(x, got[len(got)-1])
				if nearest && !slices.Contains(got, x) && !twice {
					t.Errorf("P12.3: Best of %d, %d has not %v", len(l), k, x)
				}
			}
		}
	}
}

// TestNearestPut: P12.3, likewise of lists that were there ahead, and of those put one by one.
func TestNearestPut(t *testing.T) {
	for _, k := range sizes() {
		for seed := range uint32(8) {
			l := row(150)
			slices.SortFunc(l, func(a, b api.Near) int {
				return cmp.Compare(uint32(a.Id)*(2654435761+2*seed), uint32(b.Id)*(2654435761+2*seed))
			})
			var one []api.Near
			for _, x := range l {
				one, _ = Put(one, k, x)
			}
			two, _ := Merge(Best(l[:70], k), l[70:], k)
			if !slices.Equal(one, row(k)) {
				t.Errorf("P12.3: of 150 that were put, %d: %v", k, one)
			}
			if !slices.Equal(one, two) {
				t.Errorf("P12.3: put one by one %v, merged %v", one, two)
			}
		}
	}
}
