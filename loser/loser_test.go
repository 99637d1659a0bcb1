package loser

import (
	"cmp"
	"slices"
	"strings"
	"testing"
	"unsafe"
)

// plain is what the document tells of a tree, looked through from its first source to its last one.
type plain struct {
	heads []string
	over  []bool
}

// plainOf answers what a tree of these is, each source with a note of its own.
func plainOf(heads []string, over []bool) plain {
	p := plain{heads: slices.Clone(heads), over: make([]bool, len(heads))}
	copy(p.over, over)
	return p
}

func (p plain) least() (int, bool) {
	at := -1
	for i, head := range p.heads {
		if !p.over[i] && (at < 0 || below(head, p.heads[at])) {
			at = i
		}
	}
	return max(at, 0), at >= 0
}

func (p plain) next(head string, over bool) {
	if i, ok := p.least(); ok {
		p.heads[i], p.over[i] = head, over
	}
}

func (p plain) left() int {
	left := 0
	for _, over := range p.over {
		if !over {
			left++
		}
	}
	return left
}

// below: octet by octet; of two texts that begin alike the shorter one.
func below(a, b string) bool {
	for i := range min(len(a), len(b)) {
		if a[i] != b[i] {
			return a[i] < b[i]
		}
	}
	return len(a) < len(b)
}

// tells fails the test, if the tree answers something else; it asks twice, as asking changes nothing.
func tells(t *testing.T, promise string, tree *Tree, least int, ok bool, head string, left int) {
	t.Helper()
	for range 2 {
		if i, is := tree.Least(); i != least || is != ok {
			t.Errorf("%s: Least = %d, %v, want %d, %v", promise, i, is, least, ok)
		}
		if got := tree.Head(); got != head {
			t.Errorf("%s: Head = %q, want %q", promise, got, head)
		}
		if got := tree.Left(); got != left {
			t.Errorf("%s: Left = %d, want %d", promise, got, left)
		}
	}
}

// tellsNone fails the test, if the tree has a least one.
func tellsNone(t *testing.T, promise string, tree *Tree) {
	t.Helper()
	tells(t, promise, tree, 0, false, "", 0)
}

// asPlain fails the test, if the tree answers something else than the document tells.
func asPlain(t *testing.T, promise string, tree *Tree, p plain) {
	t.Helper()
	least, ok := p.least()
	head := ""
	if ok {
		head = p.heads[least]
	}
	tells(t, promise, tree, least, ok, head, p.left())
}

// made answers a tree of these, and what the document tells of it.
func made(t *testing.T, heads []string, over []bool) (*Tree, plain) {
	t.Helper()
	tree := New(heads, over)
	if tree == nil {
		t.Fatalf("P15.1: New of %d is nil", len(heads))
	}
	return tree, plainOf(heads, over)
}

// dice answers numbers from 0 to below, always the same ones of a seed.
func dice(seed uint32) func(below int) int {
	return func(below int) int {
		seed = seed*1664525 + 1013904223
		return int(seed>>8) % below
	}
}

// texts are heads in order: such as begin alike, none, and with every kind of octet.
func texts() []string {
	return []string{"", "\x00", "\x00\x00", "\x00\x01", "\x00\xff", "\x01", "0", "00", "1", "A", "Z", "a", "a\x00", "a\x00b", "aa", "ab", "b", "\x7f", "\x80", "\xc3\xa4", "\xe2\x82\xac", "\xf0\x9f\x98\x80", "\xfe", "\xff", "\xff\x00", "\xff\xff"}
}

func rolled(next func(int) int, count, kinds int) []string {
	all := texts()
	heads := make([]string, count)
	for i := range heads {
		heads[i] = all[next(min(kinds, len(all)))]
	}
	return heads
}

// TestExample: P15.1, the chapter's.
func TestExample(t *testing.T) {
	tree, _ := made(t, []string{"b", "a", "a"}, nil)
	tells(t, "P15.1", tree, 1, true, "a", 3)
	tree.Next("", true)
	tells(t, "P15.1", tree, 2, true, "a", 2)
	tree.Next("c", false)
	tells(t, "P15.1", tree, 0, true, "b", 2)
	tree.Next("d", true)
	tells(t, "P15.1", tree, 2, true, "c", 1)
	tree.Next("", true)
	tellsNone(t, "P15.1", tree)
}

// TestNewMany: P15.1, as many sources as there may be, and nil of more.
func TestNewMany(t *testing.T) {
	for count := range 65 {
		tree, p := made(t, make([]string, count), nil)
		asPlain(t, "P15.1", tree, p)
	}
	for _, count := range []int{65, 66, 127, 128, 129, 256, 1000, 1 << 16} {
		heads, over := make([]string, count), make([]bool, count)
		if New(heads, nil) != nil || New(heads, over) != nil || New(heads, over[:64]) != nil {
			t.Errorf("P15.1: New of %d is no nil", count)
		}
		for i := range over {
			over[i] = true
		}
		if New(heads, over) != nil {
			t.Errorf("P15.1: New of %d that are over is no nil", count)
		}
	}
}

// TestNewNone: P15.1, a tree of no sources is one, whatever is said of such as there are not.
func TestNewNone(t *testing.T) {
	for _, heads := range [][]string{nil, {}} {
		for _, over := range [][]bool{nil, {}, {false}, {true, false}, make([]bool, 100)} {
			tree, _ := made(t, heads, over)
			tellsNone(t, "P15.1", tree)
			tree.Next("a", false)
			tellsNone(t, "P15.1", tree)
			tree.Next("", true)
			tellsNone(t, "P15.1", tree)
		}
	}
}

// TestNewOver: P15.1, those are over of which over says so; of some it says nothing, or says it of such as there are not.
func TestNewOver(t *testing.T) {
	for count := range 7 {
		heads := []string{"c", "a", "b", "a", "", "b"}[:count]
		for length := range 10 {
			for bits := range 1 << length {
				over := make([]bool, length)
				for i := range over {
					over[i] = bits>>i&1 == 1
				}
				tree, p := made(t, heads, over)
				asPlain(t, "P15.1", tree, p)
			}
		}
	}
	tree, _ := made(t, []string{"a", "b"}, []bool{true})
	tells(t, "P15.1", tree, 1, true, "b", 1)
	tree, _ = made(t, []string{"a", "b"}, []bool{false, true, true, true})
	tells(t, "P15.1", tree, 0, true, "a", 1)
}

// TestNewOne: P15.1, the least at each place of trees of each count, and the others over.
func TestNewOne(t *testing.T) {
	for count := 1; count <= 64; count++ {
		for place := range count {
			heads, over := make([]string, count), make([]bool, count)
			for i := range heads {
				heads[i], over[i] = "b", i != place
			}
			heads[place] = "a"
			tree, _ := made(t, heads, nil)
			tells(t, "P15.1", tree, place, true, "a", count)
			heads[place] = "c" // those that are over do not tell
			tree, _ = made(t, heads, over)
			tells(t, "P15.1", tree, place, true, "c", 1)
			tree.Next("", true)
			tellsNone(t, "P15.1", tree)
		}
	}
}

// TestLike: P15.1, of like heads the first source, at any two places of trees of each count.
func TestLike(t *testing.T) {
	for count := 2; count <= 64; count++ {
		for one := range count {
			for other := range one {
				heads := slices.Repeat([]string{"b"}, count)
				heads[one], heads[other] = "a", "a"
				tree, _ := made(t, heads, nil)
				tells(t, "P15.1", tree, other, true, "a", count)
				tree.Next("a", false) // as it was
				tells(t, "P15.1", tree, other, true, "a", count)
				tree.Next("aa", false)
				tells(t, "P15.1", tree, one, true, "a", count)
			}
		}
	}
}

// TestLikeAll: P15.1, of heads that are all alike the sources come in their order.
func TestLikeAll(t *testing.T) {
	for _, head := range []string{"", "a", "\xff\xff"} {
		for count := range 65 {
			tree, _ := made(t, slices.Repeat([]string{head}, count), nil)
			for i := range count {
				tells(t, "P15.1", tree, i, true, head, count-i)
				tree.Next(head, true)
			}
			tellsNone(t, "P15.1", tree)
		}
	}
}

// TestOctets: P15.1, heads are told apart octet by octet.
func TestOctets(t *testing.T) {
	all := texts()
	for i, a := range all {
		for k, b := range all {
			least := 1
			if i <= k {
				least = 0
			}
			tree, _ := made(t, []string{a, b}, nil)
			tells(t, "P15.1", tree, least, true, all[min(i, k)], 2)
		}
	}
	long := strings.Repeat("\xff", 1<<16)
	tree, _ := made(t, []string{long + "b", long + "a", long}, nil)
	tells(t, "P15.1", tree, 2, true, long, 3)
	tree.Next("", true)
	tells(t, "P15.1", tree, 1, true, long+"a", 2)
}

// TestNoHead: P15.1, a head may have no octets: it is less than others, and not over.
func TestNoHead(t *testing.T) {
	tree, _ := made(t, []string{"a", "", "\x00"}, nil)
	tells(t, "P15.1", tree, 1, true, "", 3)
	tree.Next("b", false)
	tells(t, "P15.1", tree, 2, true, "\x00", 3)
	tree.Next("", false)
	tells(t, "P15.1", tree, 2, true, "", 3)
}

// TestNext: P15.1, each source in turn has another head, or is over; a head may be less than what was there.
func TestNext(t *testing.T) {
	tree, p := made(t, []string{"d", "b", "c", "b"}, nil)
	for _, head := range []string{"e", "a", "f", "c", "", "z", "zz", "b", "c", "y", "a", "x", "y"} {
		tree.Next(head, false)
		p.next(head, false)
		asPlain(t, "P15.1", tree, p)
	}
	for range 6 {
		tree.Next("a", true)
		p.next("a", true)
		asPlain(t, "P15.1", tree, p)
	}
}

// TestNextNone: P15.1, nothing, if there is none: what is over stays so.
func TestNextNone(t *testing.T) {
	for count := range 65 {
		over := slices.Repeat([]bool{true}, count)
		tree, _ := made(t, make([]string, count), over)
		tellsNone(t, "P15.1", tree)
		for _, head := range []string{"", "a"} {
			tree.Next(head, false)
			tellsNone(t, "P15.1", tree)
			tree.Next(head, true)
			tellsNone(t, "P15.1", tree)
		}
	}
}

// TestMany: P15.1, trees of each count, held against what the document tells, step by step.
func TestMany(t *testing.T) {
	for count := range 65 {
		for seed := range uint32(12) {
			next, kinds := dice(seed*100+uint32(count)), []int{1, 2, 4, 26}[seed%4]
			over := make([]bool, next(count+9))
			for i := range over {
				over[i] = next(5) == 0
			}
			tree, p := made(t, rolled(next, count, kinds), over)
			asPlain(t, "P15.1", tree, p)
			for range 4 * count {
				head, ends := rolled(next, 1, kinds)[0], next(4) == 0
				tree.Next(head, ends)
				p.next(head, ends)
				asPlain(t, "P15.1", tree, p)
			}
		}
	}
}

// TestNoTree: P15.1, nil, and one that New did not give.
func TestNoTree(t *testing.T) {
	var none *Tree
	for _, tree := range []*Tree{none, {}, new(Tree)} {
		tellsNone(t, "P15.1", tree)
		tree.Next("a", false)
		tellsNone(t, "P15.1", tree)
		tree.Next("", true)
		tellsNone(t, "P15.1", tree)
	}
}

// TestGiven: 0.5, what New is given is not changed, and not kept.
func TestGiven(t *testing.T) {
	for _, count := range []int{1, 2, 3, 17, 64} {
		heads, over := rolled(dice(uint32(count)), count, 26), make([]bool, count+3)
		over[count/2], over[count+1] = count > 1, true
		ownHeads, ownOver := slices.Clone(heads), slices.Clone(over)
		tree, p := made(t, heads, over)
		for range 2 * count {
			tree.Next("b", false)
			p.next("b", false)
		}
		if !slices.Equal(heads, ownHeads) || !slices.Equal(over, ownOver) {
			t.Errorf("0.5: New of %d changed what it was given", count)
		}
		for i := range heads {
			heads[i], over[i] = "", !over[i]
		}
		asPlain(t, "0.5", tree, p)
	}
}

// TestOwn: P15.1, trees have nothing of one another.
func TestOwn(t *testing.T) {
	heads := []string{"b", "a", "c"}
	one, _ := made(t, heads, nil)
	other, _ := made(t, heads, nil)
	one.Next("", true)
	one.Next("d", false)
	tells(t, "P15.1", other, 1, true, "a", 3)
	other.Next("e", false)
	tells(t, "P15.1", one, 2, true, "c", 2)
	tells(t, "P15.1", other, 0, true, "b", 3)
}

// TestHeadOwn: 0.5, a head is memory of its own, not a piece of what was handed in.
func TestHeadOwn(t *testing.T) {
	given := strings.Repeat("x", 9)
	tree, _ := made(t, []string{given}, nil)
	for range 2 {
		if unsafe.StringData(tree.Head()) == unsafe.StringData(given) {
			t.Errorf("0.5: a head is kept as it was handed in")
		}
		tree.Next(given, false)
	}
}

// taken is a head, and the source it came of.
type taken struct {
	head   string
	source int
}

// comeOf answers what comes of sources, whose heads are handed on one by one, till all are over.
func comeOf(t *testing.T, sources [][]string) []taken {
	t.Helper()
	at := make([]int, len(sources))
	take := func(i int) (string, bool) {
		if at[i] == len(sources[i]) {
			return "", true
		}
		at[i]++
		return sources[i][at[i]-1], false
	}
	heads, over := make([]string, len(sources)), make([]bool, len(sources))
	total := 0
	for i := range sources {
		heads[i], over[i] = take(i)
		total += len(sources[i])
	}
	tree, _ := made(t, heads, over)
	var come []taken
	for i, ok := tree.Least(); ok && len(come) <= total; i, ok = tree.Least() {
		come = append(come, taken{tree.Head(), i})
		tree.Next(take(i))
	}
	tellsNone(t, "P15.2", tree)
	return come
}

// comesInOrder: P15.2, all heads of all sources come, in order, and of like ones those of the first source first.
func comesInOrder(t *testing.T, sources [][]string) {
	t.Helper()
	var want []taken
	for i, heads := range sources {
		for _, head := range heads {
			want = append(want, taken{head, i})
		}
	}
	slices.SortStableFunc(want, func(a, b taken) int {
		return cmp.Or(cmp.Compare(a.head, b.head), cmp.Compare(a.source, b.source))
	})
	if got := comeOf(t, sources); !slices.Equal(got, want) {
		t.Errorf("P15.2: of %q come %v, want %v", sources, got, want)
	}
}

// TestRise: P15.2, as it is written down.
func TestRise(t *testing.T) {
	comesInOrder(t, nil)
	comesInOrder(t, [][]string{nil})
	comesInOrder(t, [][]string{{"a", "b", "c"}})
	comesInOrder(t, [][]string{{"a", "c"}, {"b", "c"}})
	comesInOrder(t, [][]string{{"b"}, {"a"}, {"a"}})
	comesInOrder(t, [][]string{{"d", "e"}, nil, {"a", "b"}, nil, {"c"}})
	comesInOrder(t, [][]string{{"a", "a", "a"}, {"a", "a"}, {"", "a", "b"}})
	comesInOrder(t, [][]string{{"", "\x00", "\x7f", "\x80", "\xff"}, {"\x00\x00", "a", "\xfe\xff", "\xff\x00"}})
}

// TestRiseMany: P15.2, of each count of sources, of one length and of many.
func TestRiseMany(t *testing.T) {
	for count := range 65 {
		for seed := range uint32(8) {
			next, kinds := dice(seed*100+uint32(count)), []int{1, 3, 12, 26}[seed%4]
			sources := make([][]string, count)
			for i := range sources {
				sources[i] = rolled(next, []int{9, next(20)}[seed%2], kinds)
				slices.Sort(sources[i])
			}
			comesInOrder(t, sources)
		}
	}
}

// TestRiseApart: P15.2, of heads that are all unlike, in sources that take turns, and in such as come one behind the other.
func TestRiseApart(t *testing.T) {
	const each = 10
	for count := 1; count <= 64; count++ {
		turns, rows := make([][]string, count), make([][]string, count)
		for i := range count {
			for k := range each {
				turn, row := k*count+i, (count-1-i)*each+k
				turns[i] = append(turns[i], string([]byte{byte(turn >> 8), byte(turn)}))
				rows[i] = append(rows[i], string([]byte{byte(row >> 8), byte(row)}))
			}
		}
		comesInOrder(t, turns)
		comesInOrder(t, rows)
	}
}
