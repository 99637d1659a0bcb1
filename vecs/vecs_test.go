package vecs

import (
	"encoding/binary"
	"math"
	"slices"
	"strings"
	"testing"
	"unsafe"

	"chainman/api"
	"chainman/budget"
	"chainman/fs"
)

// head answers a head as the document tells it, whatever n and d are.
func head(n, d int) string {
	all := binary.BigEndian.AppendUint32([]byte("VEC1"), uint32(n))
	return string(binary.BigEndian.AppendUint16(all, uint16(d)))
}

// numbers answers the bytes of numbers as the document tells them, also of those that no vector has.
func numbers(l ...int) string {
	var all []byte
	for _, x := range l {
		all = binary.BigEndian.AppendUint32(all, uint32(x+1<<31))
	}
	return string(all)
}

// file answers the dataset of vectors as the document tells it.
func file(l [][]int) string {
	var s strings.Builder
	s.WriteString(head(len(l), len(l[0])))
	for _, v := range l {
		s.WriteString(numbers(v...))
	}
	return s.String()
}

// rolled answers as many numbers from 0 on, below a bound, always the same ones of a seed.
func rolled(seed uint32, length, below int) []int {
	l := make([]int, length)
	for i := range l {
		seed = seed*1664525 + 1013904223
		l[i] = int(seed>>7) % below
	}
	return l
}

// vectors answers n of d numbers, unlike one another.
func vectors(n, d int) [][]int {
	var l [][]int
	for i := range n {
		v := rolled(uint32(5000*d+i), d, 1<<25-1)
		for at := range v {
			v[at] -= 1<<24 - 1
		}
		l = append(l, v)
	}
	return l
}

// want fails the test, if a call answers another error.
func want(t *testing.T, what string, got, wanted api.Errno) {
	t.Helper()
	if got != wanted {
		t.Errorf("%s: error %d, want %d", what, got, wanted)
	}
}

// lay lets a disk have a file of these bytes, whether it had one or not.
func lay(t *testing.T, d *fs.Disk, name, bytes string) {
	t.Helper()
	d.Remove(name)
	want(t, "Create", d.Create(name), api.OK)
	want(t, "Append", d.Append(name, bytes), api.OK)
}

// disk answers a disk whose file in has these bytes.
func disk(t *testing.T, bytes string) *fs.Disk {
	t.Helper()
	d, e := fs.New(api.MaxDisk)
	want(t, "a disk", e, api.OK)
	lay(t, d, "in", bytes)
	return d
}

// bench is a disk and a budget, and a store of the file in that stands over them.
type bench struct {
	d *fs.Disk
	b *budget.Budget
	s *Store
}

// opened answers a store of these vectors, whose budget is just its room.
func opened(t *testing.T, l [][]int, room int) bench {
	t.Helper()
	x := bench{d: disk(t, file(l)), b: budget.New(room)}
	x.s = open(t, x.d, x.b, "in", room)
	return x
}

func open(t *testing.T, d *fs.Disk, b *budget.Budget, name string, room int) *Store {
	t.Helper()
	s, e := Open(d, b, name, room)
	if s == nil || e != api.OK {
		t.Fatalf("P13.1: Open(%q, %d) = %v, %d", name, room, s, e)
	}
	return s
}

// busy answers a budget of which as many are left, and others are in memory.
func busy(t *testing.T, left int) *budget.Budget {
	t.Helper()
	b := budget.New(left + 3)
	want(t, "Take", b.Take(3), api.OK)
	return b
}

// opensNot fails the test, if a file is opened without that error, with other calls, or what is in memory is other than it was.
func opensNot(t *testing.T, what string, d *fs.Disk, b *budget.Budget, name string, room int, wanted api.Errno, calls int) {
	t.Helper()
	before, now := d.Calls(), b.Now()
	if s, e := Open(d, b, name, room); s != nil || e != wanted {
		t.Errorf("P13.1: %s: Open(%.30q, %d) = %v, %d, want none, %d", what, name, room, s, e, wanted)
	}
	if d.Calls()-before != calls || b.Now() != now {
		t.Errorf("P13.1: %s: calls %d, in memory %d, want %d, %d", what, d.Calls()-before, b.Now(), calls, now)
	}
}

// gives fails the test, if the vector i is not that one, or is got by other than as many calls.
func gives(t *testing.T, promise string, x bench, i int, wanted []int, calls int) {
	t.Helper()
	before := x.d.Calls()
	got, e := x.s.Get(i)
	if e != api.OK || !slices.Equal(got, wanted) {
		t.Errorf("%s: Get(%d) = %.9v, %d, want %.9v", promise, i, got, e, wanted)
	}
	if x.d.Calls()-before != calls {
		t.Errorf("%s: Get(%d): %d calls, want %d", promise, i, x.d.Calls()-before, calls)
	}
}

// givesNot fails the test, if a vector is got without that error, with other calls, or what is in memory becomes other than it was.
func givesNot(t *testing.T, promise string, x bench, i int, wanted api.Errno, calls int) {
	t.Helper()
	before, ids, now := x.d.Calls(), x.s.Held(), x.b.Now()
	if got, e := x.s.Get(i); len(got) != 0 || e != wanted {
		t.Errorf("%s: Get(%d) = %.9v, %d, want none, %d", promise, i, got, e, wanted)
	}
	if x.d.Calls()-before != calls || x.b.Now() != now {
		t.Errorf("%s: Get(%d): calls %d, in memory %d, want %d, %d", promise, i, x.d.Calls()-before, x.b.Now(), calls, now)
	}
	holds(t, promise, x, ids...)
}

// holds fails the test, if others are in memory, or in another order.
func holds(t *testing.T, promise string, x bench, ids ...int) {
	t.Helper()
	if got := x.s.Held(); !slices.Equal(got, ids) {
		t.Errorf("%s: Held = %v, want %v", promise, got, ids)
	}
}

// asks gets vectors one behind the other.
func asks(t *testing.T, x bench, ids ...int) {
	t.Helper()
	for _, i := range ids {
		_, e := x.s.Get(i)
		want(t, "P13.2: Get", e, api.OK)
	}
}

// TestOpen: P13.1, a store of what the head says: its room is taken, none is in memory yet.
func TestOpen(t *testing.T) {
	for _, c := range [][3]int{{1, 1, 1}, {1, 1, 2}, {2, 1, 1}, {2, 3, 2}, {3, 2, 5}, {7, 13, 4}, {255, 1, 7}, {256, 2, 256}, {300, 3, 1000}, {1, 255, 1}, {2, 256, 1}, {1, 4095, 1}, {3, 4096, 2}} {
		n, dim, room := c[0], c[1], c[2]
		d, b := disk(t, file(vectors(n, dim))), budget.New(room+2)
		want(t, "Take", b.Take(2), api.OK)
		before := d.Calls()
		s := open(t, d, b, "in", room)
		if s.N() != n || s.D() != dim {
			t.Errorf("P13.1: %d of %d: N = %d, D = %d", n, dim, s.N(), s.D())
		}
		if d.Calls()-before != 2 {
			t.Errorf("P13.1: %d of %d: Open needs %d calls, want 2", n, dim, d.Calls()-before)
		}
		if b.Now() != room+2 {
			t.Errorf("P13.1: %d of %d, room %d: in memory %d, want %d", n, dim, room, b.Now(), room+2)
		}
		holds(t, "P13.1", bench{d, b, s})
	}
}

// TestOpenGreat: P13.1, a room may be as great as a number, and the room of a store says nothing of its memory.
func TestOpenGreat(t *testing.T) {
	l := vectors(3, 2)
	d, b := disk(t, file(l)), budget.New(math.MaxInt)
	x := bench{d, b, open(t, d, b, "in", math.MaxInt)}
	asks(t, x, 0, 1, 2)
	holds(t, "P13.1", x, 2, 1, 0)
	if b.Left() != 0 {
		t.Errorf("P13.1: %d of the budget are left", b.Left())
	}
	x.s.Close()
	if b.Left() != math.MaxInt {
		t.Errorf("P13.2: Close leaves %d in memory", b.Now())
	}
}

// TestOpenRoom: P13.1, a room below 1 is told ahead of all else.
func TestOpenRoom(t *testing.T) {
	d, b := disk(t, file(vectors(2, 2))), budget.New(9)
	for _, room := range []int{0, -1, -2, -9, math.MinInt, math.MinInt + 1} {
		opensNot(t, "a room that may not be", d, b, "in", room, api.ErrArg, 0)
		opensNot(t, "and no file", d, b, "none", room, api.ErrArg, 0)
		opensNot(t, "and no budget", d, budget.New(0), "in", room, api.ErrArg, 0)
	}
}

// TestOpenBudget: P13.1, without room in the budget nothing is called, and nothing taken.
func TestOpenBudget(t *testing.T) {
	d := disk(t, file(vectors(2, 2)))
	opensNot(t, "a budget of nothing", d, budget.New(0), "in", 1, api.ErrBudget, 0)
	b := budget.New(5)
	want(t, "Take", b.Take(2), api.OK)
	for _, room := range []int{4, 5, 6, 1 << 20, 1 << 32, math.MaxInt} {
		opensNot(t, "too little is left", d, b, "in", room, api.ErrBudget, 0)
		opensNot(t, "and no file", d, b, "none", room, api.ErrBudget, 0)
		opensNot(t, "and no name", d, b, "No", room, api.ErrBudget, 0)
	}
	if b.High() != 2 {
		t.Errorf("P13.1: without room %d were in memory, want 2", b.High())
	}
	open(t, d, b, "in", 3)
}

// TestOpenSize: P13.1, the error of fs.Size.
func TestOpenSize(t *testing.T) {
	d, b := disk(t, file(vectors(2, 2))), busy(t, 9)
	for _, name := range []string{"none", "i", "inn", "a.b"} {
		opensNot(t, "no file", d, b, name, 4, api.ErrNone, 1)
	}
	for _, name := range []string{"", "In", "in ", "in\x00", "a/b", "ä", strings.Repeat("a", 25)} {
		opensNot(t, "no name", d, b, name, 4, api.ErrArg, 0)
	}
	d.Arm(0)
	opensNot(t, "the machine falls", d, b, "in", 4, api.ErrDown, 1)
	opensNot(t, "the machine fell", d, b, "in", 4, api.ErrDown, 1)
	opensNot(t, "no file, and it fell", d, b, "none", 4, api.ErrDown, 1)
}

// TestOpenShort: P13.1, fewer than ten bytes are told ahead of the read.
func TestOpenShort(t *testing.T) {
	all, b := file(vectors(2, 2)), busy(t, 9)
	for length := range 10 {
		d := disk(t, all[:length])
		opensNot(t, "a short file", d, b, "in", 9, api.ErrInput, 1)
		d.Arm(1)
		opensNot(t, "a short file, and it would fall", d, b, "in", 9, api.ErrInput, 1)
	}
}

// TestOpenRead: P13.1, the error of fs.Read of the head, ahead of what the head is.
func TestOpenRead(t *testing.T) {
	b := busy(t, 9)
	for _, bytes := range []string{file(vectors(2, 2)), "0123456789", head(0, 0)} {
		d := disk(t, bytes)
		d.Arm(1)
		opensNot(t, "the machine falls at the read", d, b, "in", 9, api.ErrDown, 2)
		d.Rise([]int{len(bytes)})
	}
}

// TestOpenShape: P13.1, dataset.Shape's error.
func TestOpenShape(t *testing.T) {
	all, b := file(vectors(2, 3)), busy(t, 9)
	wrong := []string{
		all + "0", all[:len(all)-1], all[:len(all)-4], all + "0123", all[:10], all[:11], "VEC2" + all[4:], "vec1" + all[4:],
		"\x00" + all[1:], "0" + all, head(1, 3) + all[10:], head(3, 3) + all[10:], head(2, 2) + all[10:], head(2, 4) + all[10:],
		head(0, 3), head(2, 0), head(0, 0), head(0, 3) + all[10:], head(1, 4097) + strings.Repeat("\x80\x00\x00\x00", 4097),
		head(1<<20+1, 1) + strings.Repeat("\x80\x00\x00\x00", 1<<20+1), head(1<<32-1, 1<<16-1), strings.Repeat("\x00", 10), strings.Repeat("\xff", 40),
	}
	for _, bytes := range wrong {
		opensNot(t, "no dataset's head", disk(t, bytes), b, "in", 9, api.ErrInput, 2)
	}
}

// TestGet: P13.2, what is not in memory is one read, what is there none; the last one makes room.
func TestGet(t *testing.T) {
	l := vectors(5, 3)
	x := opened(t, l, 3)
	for _, step := range []struct {
		i, calls int
		held     []int
	}{
		{0, 1, []int{0}}, {0, 0, []int{0}}, {4, 1, []int{4, 0}}, {0, 0, []int{0, 4}}, {0, 0, []int{0, 4}}, {2, 1, []int{2, 0, 4}},
		{0, 0, []int{0, 2, 4}}, {4, 0, []int{4, 0, 2}}, {1, 1, []int{1, 4, 0}}, {2, 1, []int{2, 1, 4}}, {4, 0, []int{4, 2, 1}},
		{2, 0, []int{2, 4, 1}}, {3, 1, []int{3, 2, 4}}, {0, 1, []int{0, 3, 2}}, {1, 1, []int{1, 0, 3}}, {3, 0, []int{3, 1, 0}},
	} {
		gives(t, "P13.2", x, step.i, l[step.i], step.calls)
		holds(t, "P13.2", x, step.held...)
	}
}

// TestGetOne: P13.2, with room for one just the last one is in memory (example 1).
func TestGetOne(t *testing.T) {
	l := [][]int{{5}, {7}}
	x := opened(t, l, 1)
	gives(t, "P13.2", x, 0, l[0], 1)
	gives(t, "P13.2", x, 0, l[0], 0)
	gives(t, "P13.2", x, 1, l[1], 1)
	holds(t, "P13.2", x, 1)
	gives(t, "P13.2", x, 0, l[0], 1)
	holds(t, "P13.2", x, 0)
}

// TestGetRange: P13.2, none such, whatever is in memory, and whether the machine is up.
func TestGetRange(t *testing.T) {
	x := opened(t, vectors(3, 2), 2)
	asks(t, x, 0, 2)
	for range 2 {
		for _, i := range []int{-1, -2, 3, 4, 1 << 20, 1<<20 - 1, 1 << 32, 1<<32 + 1, 1 << 61, 1 << 62, math.MaxInt, math.MaxInt - 1, math.MinInt, math.MinInt + 1} {
			givesNot(t, "P13.2", x, i, api.ErrRange, 0)
		}
		x.d.Arm(0)
	}
}

// TestGetRead: P13.2, the error of fs.Read; what is in memory stays, and is given all the same.
func TestGetRead(t *testing.T) {
	l := vectors(4, 3)
	x := opened(t, l, 2)
	all := file(l)
	asks(t, x, 0, 2)
	x.d.Arm(0)
	givesNot(t, "P13.2", x, 1, api.ErrDown, 1)
	givesNot(t, "P13.2", x, 3, api.ErrDown, 1)
	gives(t, "P13.2", x, 0, l[0], 0)
	holds(t, "P13.2", x, 0, 2)
	x.d.Rise([]int{len(all)})
	gives(t, "P13.2", x, 1, l[1], 1)
	holds(t, "P13.2", x, 1, 0)
	want(t, "Remove", x.d.Remove("in"), api.OK)
	givesNot(t, "P13.2", x, 2, api.ErrNone, 1)
	lay(t, x.d, "in", all[:len(all)-1])
	givesNot(t, "P13.2", x, 3, api.ErrRange, 1)
	gives(t, "P13.2", x, 2, l[2], 1)
	holds(t, "P13.2", x, 2, 1)
}

// TestGetNone: P13.2, bytes that are none of a vector are told, whichever number they are of; others are given.
func TestGetNone(t *testing.T) {
	l := vectors(3, 3)
	for _, no := range []int{1 << 24, -1 << 24, 1<<31 - 1, -1 << 31} {
		for at := range 3 {
			wrong := slices.Clone(l)
			wrong[1] = slices.Clone(l[1])
			wrong[1][at] = no
			x := opened(t, wrong, 2)
			givesNot(t, "P13.2", x, 1, api.ErrInput, 1)
			gives(t, "P13.2", x, 0, l[0], 1)
			gives(t, "P13.2", x, 2, l[2], 1)
			givesNot(t, "P13.2", x, 1, api.ErrInput, 1)
			lay(t, x.d, "in", file(l))
			gives(t, "P13.2", x, 1, l[1], 1)
			holds(t, "P13.2", x, 1, 2)
		}
	}
}

// TestGetTurned: P13.2, what is in memory is as it was read, what is not as it stands on the disk.
func TestGetTurned(t *testing.T) {
	l := [][]int{{1, 2}, {3, 4}, {5, 6}}
	x := opened(t, l, 2)
	asks(t, x, 0, 1)
	if !x.d.Turn("in", 8*(10+3), 1) || !x.d.Turn("in", 8*(10+16+7), 1) {
		t.Fatal("Turn: there is no such file")
	}
	gives(t, "P13.2", x, 0, []int{1, 2}, 0)
	gives(t, "P13.2", x, 2, []int{5, 7}, 1)
	gives(t, "P13.2", x, 1, []int{3, 4}, 1)
	gives(t, "P13.2", x, 0, []int{0, 2}, 1)
}

// TestOwn: 0.5, who changes an answer changes nothing in memory, nor another answer.
func TestOwn(t *testing.T) {
	l := vectors(3, 4)
	x := opened(t, l, 2)
	for range 3 {
		for _, i := range []int{0, 0, 1, 0, 2, 2} {
			got, _ := x.s.Get(i)
			again, _ := x.s.Get(i)
			for at := range got {
				got[at] = -7
			}
			if !slices.Equal(again, l[i]) {
				t.Errorf("0.5: Get(%d) shares memory with another answer: %v, want %v", i, again, l[i])
			}
			_ = append(again[:0], slices.Repeat([]int{9}, cap(again))...)
			gives(t, "0.5", x, i, l[i], 0)
		}
	}
	ids := x.s.Held()
	wanted := slices.Clone(ids)
	ids[0], ids[1] = 77, 78
	holds(t, "0.5", x, wanted...)
	gives(t, "0.5", x, wanted[1], l[wanted[1]], 0)
}

// TestName: 0.5, the name that was handed in is not kept.
func TestName(t *testing.T) {
	l := vectors(2, 2)
	d, b := disk(t, file(l)), budget.New(1)
	name := []byte("in")
	x := bench{d, b, open(t, d, b, unsafe.String(&name[0], len(name)), 1)}
	name[0] = 'o'
	gives(t, "0.5", x, 1, l[1], 1)
}

// TestClose: P13.2, the room is given back, once; it is a store of as many, with none in memory, that gives none.
func TestClose(t *testing.T) {
	l := vectors(3, 2)
	d, b := disk(t, file(l)), budget.New(20)
	want(t, "Take", b.Take(6), api.OK)
	x := bench{d, b, open(t, d, b, "in", 5)}
	asks(t, x, 0, 2)
	calls := d.Calls()
	for range 3 {
		x.s.Close()
		if b.Now() != 6 || d.Calls() != calls {
			t.Errorf("P13.2: Close leaves %d in memory, want 6, with %d calls", b.Now(), d.Calls()-calls)
		}
	}
	holds(t, "P13.1", x)
	if x.s.N() != 3 || x.s.D() != 2 {
		t.Errorf("P13.1: behind Close N = %d, D = %d, want 3, 2", x.s.N(), x.s.D())
	}
	for _, i := range []int{0, 2, 1, 3, -1, math.MaxInt, math.MinInt} {
		givesNot(t, "P13.2", x, i, api.ErrState, 0)
	}
}

// TestCloseFresh: P13.2, none was asked for, and the machine fell: the room is given back all the same.
func TestCloseFresh(t *testing.T) {
	x := opened(t, vectors(3, 2), 4)
	x.d.Arm(0)
	givesNot(t, "P13.2", x, 0, api.ErrDown, 1)
	x.s.Close()
	if x.b.Now() != 0 {
		t.Errorf("P13.2: Close leaves %d in memory", x.b.Now())
	}
}

// TestNotOpened: P13.2, of a nil Store, and one that Open did not give.
func TestNotOpened(t *testing.T) {
	for _, s := range []*Store{nil, {}, new(Store)} {
		for range 2 {
			for _, i := range []int{0, 1, -1, math.MaxInt, math.MinInt} {
				if v, e := s.Get(i); len(v) != 0 || e != api.ErrState {
					t.Errorf("P13.2: Get(%d) = %v, %d, want none, %d", i, v, e, api.ErrState)
				}
			}
			if s.N() != 0 || s.D() != 0 || len(s.Held()) != 0 {
				t.Errorf("P13.2: N = %d, D = %d, Held = %v, want 0, 0, none", s.N(), s.D(), s.Held())
			}
			s.Close()
		}
	}
}

// TestNoDisk: 0.1, without a disk, or a budget, that New gave nothing panics.
func TestNoDisk(t *testing.T) {
	d, b := disk(t, file(vectors(1, 1))), budget.New(3)
	opensNot(t, "no disk", nil, b, "in", 2, api.ErrArg, 0)
	opensNot(t, "a disk that New did not give", &fs.Disk{}, b, "in", 2, api.ErrArg, 0)
	opensNot(t, "no budget", d, nil, "in", 2, api.ErrArg, 0)
	opensNot(t, "a budget that New did not give", d, &budget.Budget{}, "in", 2, api.ErrArg, 0)
	want(t, "0.1: Check of no disk", Check(nil, "in"), api.ErrArg)
	want(t, "0.1: Check of a disk that New did not give", Check(&fs.Disk{}, "in"), api.ErrArg)
}

// TestStores: P13.4, several stores over one disk and one budget, each with what is its own.
func TestStores(t *testing.T) {
	l, m := vectors(4, 2), vectors(3, 5)
	d, b := disk(t, file(l)), budget.New(6)
	lay(t, d, "b", file(m))
	x := bench{d, b, open(t, d, b, "in", 3)}
	y := bench{d, b, open(t, d, b, "b", 1)}
	z := bench{d, b, open(t, d, b, "in", 2)}
	opensNot(t, "a fourth one", d, b, "in", 1, api.ErrBudget, 0)
	for i := range 3 {
		gives(t, "P13.4", x, i, l[i], 1)
		gives(t, "P13.4", y, i, m[i], 1)
		gives(t, "P13.4", z, i+1, l[i+1], 1)
	}
	holds(t, "P13.4", x, 2, 1, 0)
	holds(t, "P13.4", y, 2)
	holds(t, "P13.4", z, 3, 2)
	x.s.Close()
	if b.Now() != 3 {
		t.Errorf("P13.2: Close of the room 3 of 6 leaves %d in memory", b.Now())
	}
	gives(t, "P13.4", y, 0, m[0], 1)
	gives(t, "P13.4", z, 2, l[2], 0)
}

// asked answers the held ones as the document tells them, once one was asked for.
func asked(held []int, i, room int) []int {
	next := []int{i}
	for _, id := range held {
		if id != i && len(next) < room {
			next = append(next, id)
		}
	}
	return next
}

// TestWhatever: P13.4, whatever is asked for, it is the dataset's vector, read if it was not in memory; never more than the room are there.
func TestWhatever(t *testing.T) {
	for _, n := range []int{1, 2, 3, 8, 20} {
		l := vectors(n, 3)
		for room := 1; room <= n+2; room++ {
			x := opened(t, l, room)
			var held []int
			for _, i := range rolled(uint32(100*n+room), 300, n) {
				calls := 1
				if slices.Contains(held, i) {
					calls = 0
				}
				held = asked(held, i, room)
				gives(t, "P13.4", x, i, l[i], calls)
				holds(t, "P13.4", x, held...)
				if len(x.s.Held()) > room {
					t.Fatalf("P13.4: room %d: Held = %v", room, x.s.Held())
				}
			}
			if x.b.High() != room {
				t.Errorf("P13.4: room %d: there were %d in memory", room, x.b.High())
			}
		}
	}
}

// TestFit: P13.4, the greatest numbers, the longest vectors.
func TestFit(t *testing.T) {
	l := [][]int{slices.Repeat([]int{1<<24 - 1}, 4096), slices.Repeat([]int{1 - 1<<24}, 4096), slices.Repeat([]int{0}, 4096)}
	x := opened(t, l, 2)
	for _, i := range []int{2, 1, 0, 2, 1} {
		gives(t, "P13.4", x, i, l[i], 1)
	}
	want(t, "P13.3: Check", Check(x.d, "in"), api.OK)
}

// TestMany: P13.4, as many vectors as there may be.
func TestMany(t *testing.T) {
	x := bench{d: disk(t, head(1<<20, 3)+strings.Repeat(numbers(1, -2, 3), 1<<20-1)+numbers(4, 5, -6)), b: budget.New(2)}
	x.s = open(t, x.d, x.b, "in", 2)
	gives(t, "P13.4", x, 1<<20-1, []int{4, 5, -6}, 1)
	gives(t, "P13.4", x, 1<<20-2, []int{1, -2, 3}, 1)
	gives(t, "P13.4", x, 0, []int{1, -2, 3}, 1)
	givesNot(t, "P13.4", x, 1<<20, api.ErrRange, 0)
	holds(t, "P13.4", x, 0, 1<<20-2)
	want(t, "P13.3: Check", Check(x.d, "in"), api.OK)
}

// checks fails the test, if Check answers another error, or needs other calls.
func checks(t *testing.T, what string, d *fs.Disk, name string, wanted api.Errno, calls int) {
	t.Helper()
	before := d.Calls()
	want(t, "P13.3: Check of "+what, Check(d, name), wanted)
	if d.Calls()-before != calls {
		t.Errorf("P13.3: Check of %s: %d calls, want %d", what, d.Calls()-before, calls)
	}
}

// TestCheck: P13.3, of datasets.
func TestCheck(t *testing.T) {
	for _, c := range [][2]int{{1, 1}, {1, 2}, {2, 1}, {3, 4}, {256, 3}, {1, 4096}} {
		checks(t, "a dataset", disk(t, file(vectors(c[0], c[1]))), "in", api.OK, 2)
	}
}

// TestCheckCall: P13.3, the error of fs.Size, then that of fs.Read.
func TestCheckCall(t *testing.T) {
	for _, bytes := range []string{file(vectors(2, 2)), "", "none such"} {
		d := disk(t, bytes)
		checks(t, "no file", d, "none", api.ErrNone, 1)
		checks(t, "no name", d, "In", api.ErrArg, 0)
		checks(t, "no name", d, "", api.ErrArg, 0)
		d.Arm(1)
		checks(t, "a file, where the machine falls at the read", d, "in", api.ErrDown, 2)
		checks(t, "a file, where the machine fell", d, "in", api.ErrDown, 1)
		checks(t, "no file, where the machine fell", d, "none", api.ErrDown, 1)
	}
}

// TestCheckNone: P13.3, of what is no dataset.
func TestCheckNone(t *testing.T) {
	all := file([][]int{{1, 2}, {3, 4}})
	for length := range all {
		checks(t, "a file that is cut", disk(t, all[:length]), "in", api.ErrInput, 2)
	}
	for _, bytes := range []string{
		all + "0", all + "0123", all + all, "VEC0" + all[4:], head(1, 2) + all[10:], head(4, 1) + all[10:] + "0", head(0, 0), head(0, 1), head(1, 0),
		head(2, 1) + numbers(0, 1<<24), head(2, 1) + numbers(-1<<24, 0), head(1, 2) + numbers(0, 1<<31-1), head(1, 1) + "\x00\x00\x00\x00",
		head(1, 4097) + strings.Repeat("\x80\x00\x00\x00", 4097), strings.Repeat("\x00", api.MaxDisk),
	} {
		checks(t, "what is no dataset", disk(t, bytes), "in", api.ErrInput, 2)
	}
}

// TestCheckKeeps: 0.5, Check changes no file.
func TestCheckKeeps(t *testing.T) {
	for _, bytes := range []string{file(vectors(2, 2)), "none such"} {
		d := disk(t, bytes)
		Check(d, "in")
		if got, e := d.Read("in", 0, len(bytes)); got != bytes || e != api.OK || d.Used() != len(bytes) {
			t.Errorf("0.5: Check made of %q: %q, %d", bytes, got, e)
		}
	}
}
