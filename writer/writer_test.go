package writer

import (
	"hash/crc32"
	"math"
	"slices"
	"strconv"
	"strings"
	"testing"
	"unsafe"

	"chainman/api"
	"chainman/budget"
	"chainman/frame"
	"chainman/fs"
	"chainman/recfile"
)

// bench is a disk and a budget, and a writer of the file out that stands over them.
type bench struct {
	d *fs.Disk
	b *budget.Budget
	w *Writer
}

func disk(t *testing.T, room int) *fs.Disk {
	t.Helper()
	d, e := fs.New(room)
	if e != api.OK {
		t.Fatalf("a disk of %d: error %d", room, e)
	}
	return d
}

func create(t *testing.T, d *fs.Disk, b *budget.Budget, name string, size int) *Writer {
	t.Helper()
	w, e := Create(d, b, name, size)
	if w == nil || e != api.OK {
		t.Fatalf("P8.1: Create(%q, %d) = %v, %d", name, size, w, e)
	}
	return w
}

func opened(t *testing.T, room, size int) bench {
	t.Helper()
	x := bench{d: disk(t, room), b: budget.New(20)}
	x.w = create(t, x.d, x.b, "out", size)
	return x
}

// want fails the test, if a call answers another error.
func want(t *testing.T, what string, got, wanted api.Errno) {
	t.Helper()
	if got != wanted {
		t.Errorf("%s: error %d, want %d", what, got, wanted)
	}
}

// fill puts records, all of which may be put.
func fill(t *testing.T, w *Writer, l []string) {
	t.Helper()
	for i, record := range l {
		if e := w.Put(record); e != api.OK {
			t.Fatalf("P8.2: Put of record %d: error %d", i, e)
		}
	}
}

// closes fails the test, if the writer isn't closed, or tells of other records.
func closes(t *testing.T, promise string, w *Writer, l []string) {
	t.Helper()
	x, e := w.Close()
	if wanted := (api.Info{Count: len(l), Sum: crc32.ChecksumIEEE([]byte(strings.Join(l, "")))}); e != api.OK || x != wanted {
		t.Errorf("%s: Close = %v, %d, want %v", promise, x, e, wanted)
	}
}

// closesNot fails the test, if the writer is closed without that error.
func closesNot(t *testing.T, w *Writer, wanted api.Errno) {
	t.Helper()
	if x, e := w.Close(); e != wanted || x != (api.Info{}) {
		t.Errorf("P8.2: Close = %v, %d, want none, %d", x, e, wanted)
	}
}

// tells fails the test, if the writer's count, the disk's calls, or what is in memory are others.
func (x bench) tells(t *testing.T, promise string, count, calls, now int) {
	t.Helper()
	if x.w.Count() != count || x.d.Calls() != calls || x.b.Now() != now {
		t.Errorf("%s: count %d, calls %d, in memory %d, want %d, %d, %d", promise, x.w.Count(), x.d.Calls(), x.b.Now(), count, calls, now)
	}
}

// bytesOf answers a file's bytes, of those that wait as many as stay, and whether there is one; the disk stays as it was.
func bytesOf(d *fs.Disk, name string, stay int) (string, bool) {
	c := d.Clone()
	c.Rise(slices.Repeat([]int{stay}, api.MaxFiles))
	n, e := c.Size(name)
	if e != api.OK {
		return "", false
	}
	s, e := c.Read(name, 0, n)
	return s, e == api.OK
}

// has fails the test, if the file's bytes are others.
func has(t *testing.T, promise string, d *fs.Disk, name, wanted string) {
	t.Helper()
	if s, ok := bytesOf(d, name, api.MaxDisk); !ok || s != wanted {
		t.Errorf("%s: %s has %x, %v, want %x", promise, name, s, ok, wanted)
	}
}

// keeps fails the test, if other bytes of the file are kept.
func keeps(t *testing.T, promise string, d *fs.Disk, name, wanted string) {
	t.Helper()
	if s, ok := bytesOf(d, name, 0); !ok || s != wanted {
		t.Errorf("%s: of %s is kept %x, %v, want %x", promise, name, s, ok, wanted)
	}
}

// files answers how many files there are; the disk stays as it was.
func files(d *fs.Disk) int {
	c := d.Clone()
	c.Rise(nil)
	l, _ := c.List()
	return len(l)
}

func head(size int) string {
	s, _ := recfile.PutHead(size)
	return s
}

func file(size int, l []string) string {
	s, _ := recfile.Lay(size, l)
	return s
}

// begun answers the head and the full blocks of a file of records.
func begun(size int, l []string) string {
	s := head(size)
	for at := 0; at+4 <= len(l); at += 4 {
		block, _ := frame.Put(size, l[at:at+4])
		s += block
	}
	return s
}

// rolled answers bytes that look like no others, always the same ones of a seed.
func rolled(seed uint32, length int) string {
	all := make([]byte, length)
	for i := range all {
		seed = seed*1664525 + 1013904223
		all[i] = byte(seed >> 24)
	}
	return string(all)
}

// records answers so many records of a size, unlike one another where they may be.
func records(size, n int) []string {
	var l []string
	for i := range n {
		l = append(l, rolled(uint32(1024*size+i), size))
	}
	return l
}

// loose answers a text that stands over bytes, which may be changed.
func loose(s string) (string, []byte) {
	given := []byte(s)
	return unsafe.String(&given[0], len(given)), given
}

// noSizes are numbers that are no record's size.
func noSizes() []int {
	return []int{math.MinInt, math.MinInt + 1, -256, -64, -4, -1, 0, 65, 66, 128, 255, 256, 257, 320, 1 << 32, 1<<32 + 1, 1 << 62, math.MaxInt - 1, math.MaxInt}
}

// TestExample: P8.1 to P8.3, the chapter's, byte by byte.
func TestExample(t *testing.T) {
	x := opened(t, 100, 1)
	fill(t, x.w, []string{"a"})
	closes(t, "P8.2", x.w, []string{"a"})
	s := "CHAIN1\x01\x3b\xc9\x55\x43" + "\x01a\x70\x72\x77\x62" + "\x00\x00\x00\x00\x00\x00\x00\x00\x01\xe8\xb7\xbe\x43\x6c\x7d\x5d\x74"
	if s != file(1, []string{"a"}) {
		t.Errorf("P8.3: the file of a is %x, want %x", file(1, []string{"a"}), s)
	}
	has(t, "P8.3", x.d, "out", s)
	x.tells(t, "P8.2", 1, 5, 0)
}

// TestCreate: P8.1, a file that begins with the head, and four records of the budget.
func TestCreate(t *testing.T) {
	for size := 1; size <= 64; size++ {
		x := opened(t, 11, size)
		has(t, "P8.1", x.d, "out", head(size))
		x.tells(t, "P8.1", 0, 2, 4)
	}
}

// TestCreateBounds: P8.1, what just suffices: four that are left, and a disk that ends behind the file.
func TestCreateBounds(t *testing.T) {
	b := budget.New(11)
	b.Take(7)
	x := bench{d: disk(t, 28), b: b}
	x.w = create(t, x.d, b, strings.Repeat("a", 24), 64)
	x.tells(t, "P8.1", 0, 2, 11)
	closes(t, "P8.1", x.w, nil)
	has(t, "P8.1", x.d, strings.Repeat("a", 24), file(64, nil))
	x.tells(t, "P8.1", 0, 4, 7)
}

// TestCreateNoSize: P8.1, what is no size is told first, and nothing is done.
func TestCreateNoSize(t *testing.T) {
	for _, size := range noSizes() {
		d, b := disk(t, 100), budget.New(20)
		down := disk(t, 100)
		down.Arm(0)
		down.List()
		for _, c := range []struct {
			d    *fs.Disk
			b    *budget.Budget
			name string
		}{{d, b, "out"}, {d, b, "OUT"}, {d, budget.New(3), "out"}, {d, nil, "out"}, {nil, b, "out"}, {down, b, "out"}} {
			calls := c.d.Calls()
			if w, e := Create(c.d, c.b, c.name, size); w != nil || e != api.ErrArg {
				t.Errorf("P8.1: Create(%q, %d) = %v, %d, want none, %d", c.name, size, w, e, api.ErrArg)
			}
			if c.d.Calls() != calls || c.b.High() != 0 || c.d == d && files(d) != 0 {
				t.Errorf("P8.1: Create of size %d did something", size)
			}
		}
	}
}

// TestCreateNoBudget: P8.1, the error of taking four is told ahead of the disk's, and nothing is done.
func TestCreateNoBudget(t *testing.T) {
	for _, c := range []struct {
		b    *budget.Budget
		take int
		want api.Errno
	}{
		{nil, 0, api.ErrArg},
		{&budget.Budget{}, 0, api.ErrArg},
		{budget.New(0), 0, api.ErrBudget},
		{budget.New(3), 0, api.ErrBudget},
		{budget.New(4), 1, api.ErrBudget},
		{budget.New(1 << 20), 1<<20 - 3, api.ErrBudget},
	} {
		c.b.Take(c.take)
		d := disk(t, 100)
		for _, name := range []string{"out", "OUT", ""} {
			if w, e := Create(d, c.b, name, 5); w != nil || e != c.want {
				t.Errorf("P8.1: Create(%q) = %v, %d, want none, %d", name, w, e, c.want)
			}
		}
		if d.Calls() != 0 || files(d) != 0 || c.b.Now() != c.take {
			t.Errorf("P8.1: calls %d, files %d, in memory %d", d.Calls(), files(d), c.b.Now())
		}
	}
}

// TestCreateNoFile: P8.1, the disk's errors; the four are given back.
func TestCreateNoFile(t *testing.T) {
	full := disk(t, 100)
	for i := range 200 {
		full.Create(strconv.Itoa(i))
	}
	fallen := disk(t, 100)
	fallen.Arm(0)
	there := disk(t, 100)
	there.Create("out")
	there.Append("out", "abc")
	brim := disk(t, 100)
	brim.Create("a")
	brim.Append("a", strings.Repeat("x", 90))
	late := disk(t, 100)
	late.Arm(1)
	for i, c := range []struct {
		d     *fs.Disk
		name  string
		want  api.Errno
		calls int
		file  bool // an empty one is there then
	}{
		{nil, "out", api.ErrArg, 0, false},
		{&fs.Disk{}, "out", api.ErrArg, 0, false},
		{disk(t, 100), "OUT", api.ErrArg, 0, false},
		{disk(t, 100), "", api.ErrArg, 0, false},
		{disk(t, 100), strings.Repeat("a", 25), api.ErrArg, 0, false},
		{full, "out", api.ErrFull, 1, false},
		{full, "7", api.ErrThere, 1, true},
		{fallen, "out", api.ErrDown, 1, false},
		{there, "out", api.ErrThere, 1, false},
		{disk(t, 0), "out", api.ErrFull, 2, true},
		{disk(t, 10), "out", api.ErrFull, 2, true},
		{brim, "out", api.ErrFull, 2, true},
		{late, "out", api.ErrDown, 2, true},
	} {
		b, calls := budget.New(9), c.d.Calls()
		b.Take(5)
		if w, e := Create(c.d, b, c.name, 5); w != nil || e != c.want {
			t.Errorf("P8.1: case %d: Create = %v, %d, want none, %d", i, w, e, c.want)
		}
		if c.d.Calls()-calls != c.calls || b.Now() != 5 {
			t.Errorf("P8.1: case %d: calls %d, in memory %d, want %d, 5", i, c.d.Calls()-calls, b.Now(), c.calls)
		}
		if c.file {
			has(t, "P8.1", c.d, c.name, "")
		}
	}
	has(t, "P8.1", there, "out", "abc")
}

// TestCreateOwnName: the name that was handed in is not kept.
func TestCreateOwnName(t *testing.T) {
	d, b := disk(t, 1000), budget.New(4)
	name, given := loose("out")
	w := create(t, d, b, name, 2)
	copy(given, "xyz")
	l := records(2, 5)
	fill(t, w, l)
	closes(t, "P8.2", w, l)
	has(t, "P8.3", d, "out", file(2, l))
}

// TestPut: P8.2, records wait, till four do: then their block is appended, and nothing is kept as yet.
func TestPut(t *testing.T) {
	for _, size := range []int{1, 2, 7, 63, 64} {
		x, l := opened(t, 10000, size), records(size, 21)
		for i, record := range l {
			want(t, "P8.2: Put", x.w.Put(record), api.OK)
			has(t, "P8.2", x.d, "out", begun(size, l[:i+1]))
			keeps(t, "P8.2", x.d, "out", "")
			x.tells(t, "P8.2", i+1, 2+(i+1)/4, 4)
		}
	}
}

// TestPutSizes: P8.2, a record of other bytes is not put; the writer is open, wherever that happens.
func TestPutSizes(t *testing.T) {
	for _, size := range []int{1, 2, 8, 63, 64} {
		for n := range 10 {
			x, l := opened(t, 10000, size), records(size, 11)
			fill(t, x.w, l[:n])
			for _, other := range []int{0, 1, size - 1, size + 1, 2 * size, 4 * size, 64, 65, 256 + size} {
				if other != size {
					want(t, "P8.2: Put of another size", x.w.Put(rolled(3, other)), api.ErrArg)
				}
			}
			x.tells(t, "P8.2", n, 2+n/4, 4)
			has(t, "P8.2", x.d, "out", begun(size, l[:n]))
			fill(t, x.w, l[n:])
			closes(t, "P8.2", x.w, l)
			has(t, "P8.3", x.d, "out", file(size, l))
		}
	}
	x := opened(t, 100, 1)
	want(t, "P8.2: Put of one letter, two bytes", x.w.Put("ä"), api.ErrArg)
}

// TestPutOwn: a record that was handed in is not kept, but what it was.
func TestPutOwn(t *testing.T) {
	x, l := opened(t, 1000, 3), records(3, 6)
	for _, record := range l {
		s, given := loose(record)
		want(t, "P8.2: Put", x.w.Put(s), api.OK)
		clear(given)
	}
	closes(t, "P8.2", x.w, l)
	has(t, "P8.3", x.d, "out", file(3, l))
}

// ended fails the test, if the writer does anything any more.
func (x bench) ended(t *testing.T, size int) {
	t.Helper()
	count, calls, used := x.w.Count(), x.d.Calls(), x.d.Used()
	x.b.Take(8)
	now := x.b.Now()
	for range 2 {
		want(t, "P8.2: Put", x.w.Put(rolled(7, size)), api.ErrState)
		want(t, "P8.2: Put of another size", x.w.Put(rolled(7, size+1)), api.ErrState)
		want(t, "P8.2: Put of none", x.w.Put(""), api.ErrState)
		closesNot(t, x.w, api.ErrState)
		x.w.Drop()
		x.tells(t, "P8.2", count, calls, now)
		if x.d.Used() != used {
			t.Errorf("P8.2: %d bytes, want %d", x.d.Used(), used)
		}
	}
	x.b.Give(8)
}

// spoil is what lets the next call of a disk fail.
type spoil struct {
	do    func(*fs.Disk)
	want  api.Errno
	calls int // that it makes itself
}

func spoils() []spoil {
	return []spoil{
		{func(d *fs.Disk) { d.Arm(0) }, api.ErrDown, 0},
		{func(d *fs.Disk) { d.Remove("out") }, api.ErrNone, 1},
		{func(d *fs.Disk) { d.Rename("out", "other") }, api.ErrNone, 1},
		{func(d *fs.Disk) {
			d.Create("fill")
			d.Append("fill", strings.Repeat("x", 5000-d.Used()))
		}, api.ErrFull, 2},
	}
}

// TestPutFails: P8.2, a block that can't be appended: its record was put, the four are given back, and it is over.
func TestPutFails(t *testing.T) {
	for _, s := range spoils() {
		for _, size := range []int{1, 64} {
			for _, full := range []int{0, 1, 3} {
				x, l := opened(t, 5000, size), records(size, 4*full+4)
				fill(t, x.w, l[:4*full+3])
				s.do(x.d)
				calls := x.d.Calls()
				want(t, "P8.2: Put", x.w.Put(l[4*full+3]), s.want)
				x.tells(t, "P8.2", 4*full+4, calls+1, 0)
				x.ended(t, size)
				if s.want != api.ErrNone {
					has(t, "P8.2", x.d, "out", begun(size, l[:4*full]))
				}
			}
		}
	}
}

// TestPutRoom: P8.2, the block needs all its bytes: one too few is too few.
func TestPutRoom(t *testing.T) {
	for _, size := range []int{1, 5, 64} {
		for _, full := range []int{1, 3} {
			room, l := 11+full*frame.Room(size), records(size, 4*full)
			x := opened(t, room, size)
			fill(t, x.w, l)
			has(t, "P8.2", x.d, "out", begun(size, l))
			x = opened(t, room-1, size)
			fill(t, x.w, l[:4*full-1])
			want(t, "P8.2: Put", x.w.Put(l[4*full-1]), api.ErrFull)
			has(t, "P8.2", x.d, "out", begun(size, l[:4*full-1]))
			x.ended(t, size)
		}
	}
}

// TestClose: P8.2, the block of those that wait, if some do, and the end, are appended, and nothing waits.
func TestClose(t *testing.T) {
	for _, size := range []int{1, 2, 7, 64} {
		for n := range 14 {
			x, l := opened(t, 10000, size), records(size, n)
			fill(t, x.w, l)
			closes(t, "P8.2", x.w, l)
			blocks := (n + 3) / 4
			x.tells(t, "P8.2", n, 2+blocks+2, 0)
			has(t, "P8.2", x.d, "out", file(size, l))
			keeps(t, "P8.2", x.d, "out", file(size, l))
			x.ended(t, size)
		}
	}
}

// TestCloseFalls: P8.2, the first error of its calls, and none behind it.
func TestCloseFalls(t *testing.T) {
	for n := range 6 {
		l := records(3, n)
		whole := file(3, l)
		short, lasts := whole[:len(whole)-frame.End], 2 // ahead of the end; the end, and the sync
		after := []string{short, whole}
		if n%4 > 0 {
			after, lasts = append([]string{begun(3, l)}, after...), 3
		}
		for at := range lasts {
			x := opened(t, 1000, 3)
			fill(t, x.w, l)
			x.d.Arm(at)
			calls := x.d.Calls()
			closesNot(t, x.w, api.ErrDown)
			x.tells(t, "P8.2", n, calls+at+1, 0)
			has(t, "P8.2", x.d, "out", after[at])
			keeps(t, "P8.2", x.d, "out", "")
			x.ended(t, 3)
		}
	}
}

// TestCloseRoom: P8.2, a disk that is full ahead of the block, or of the end; no end stands where the block does not.
func TestCloseRoom(t *testing.T) {
	for _, n := range []int{0, 1, 3, 4, 6, 8} {
		l := records(64, n)
		whole := file(64, l)
		for room := len(begun(64, l)); room <= len(whole); room++ {
			x, wanted := opened(t, room, 64), whole
			fill(t, x.w, l)
			if room == len(whole) {
				closes(t, "P8.2", x.w, l)
				keeps(t, "P8.2", x.d, "out", whole)
				continue
			}
			wanted = whole[:len(whole)-frame.End]
			calls := x.d.Calls() + 1
			if n%4 > 0 && room < len(wanted) {
				wanted = begun(64, l)
			} else if n%4 > 0 {
				calls++
			}
			closesNot(t, x.w, api.ErrFull)
			x.tells(t, "P8.2", n, calls, 0)
			has(t, "P8.2", x.d, "out", wanted)
			keeps(t, "P8.2", x.d, "out", "")
		}
	}
}

// TestCloseFails: P8.2, any error of the disk: the four are given back, and it is over.
func TestCloseFails(t *testing.T) {
	for _, s := range spoils() {
		for n := range 9 {
			x, l := opened(t, 5000, 5), records(5, n)
			fill(t, x.w, l)
			s.do(x.d)
			calls := x.d.Calls()
			closesNot(t, x.w, s.want)
			x.tells(t, "P8.2", n, calls+1, 0)
			x.ended(t, 5)
			if s.want != api.ErrNone {
				has(t, "P8.2", x.d, "out", begun(5, l))
			}
		}
	}
}

// TestDrop: P8.2, what waits is gone, the disk is not asked, and the four are given back once.
func TestDrop(t *testing.T) {
	for n := range 10 {
		x, l := opened(t, 1000, 6), records(6, n)
		fill(t, x.w, l)
		x.w.Drop()
		x.tells(t, "P8.2", n, 2+n/4, 0)
		has(t, "P8.2", x.d, "out", begun(6, l))
		keeps(t, "P8.2", x.d, "out", "")
		x.ended(t, 6)
	}
}

// TestDropDown: P8.2, a writer over a disk that fell is open till a call tells.
func TestDropDown(t *testing.T) {
	x := opened(t, 1000, 6)
	x.d.Arm(0)
	x.d.List()
	fill(t, x.w, records(6, 3))
	x.tells(t, "P8.2", 3, 3, 4)
	x.w.Drop()
	x.tells(t, "P8.2", 3, 3, 0)
	x.ended(t, 6)
}

// TestNoWriter: P8.2, nil, and one that Create did not give.
func TestNoWriter(t *testing.T) {
	var empty Writer
	for _, w := range []*Writer{nil, {}, &empty, new(Writer)} {
		for _, record := range []string{"", "a", rolled(1, 64), rolled(1, 65)} {
			want(t, "P8.2: Put", w.Put(record), api.ErrState)
			closesNot(t, w, api.ErrState)
			w.Drop()
			if w.Count() != 0 {
				t.Errorf("P8.2: count %d", w.Count())
			}
		}
	}
}

// TestFile: P8.3, files of every size, with none to many blocks, kept whole; the budget is as it was.
func TestFile(t *testing.T) {
	for size := 1; size <= 64; size++ {
		lists := [][]string{nil, slices.Repeat([]string{strings.Repeat("\x00", size)}, 5), slices.Repeat([]string{strings.Repeat("\xff", size)}, 8)}
		for _, n := range []int{1, 2, 3, 4, 5, 8, 11, 12, 99} {
			lists = append(lists, records(size, n))
		}
		for _, l := range lists {
			x := bench{d: disk(t, recfile.Length(size, len(l))), b: budget.New(7)}
			x.b.Take(3)
			x.w = create(t, x.d, x.b, "out", size)
			fill(t, x.w, l)
			closes(t, "P8.3", x.w, l)
			keeps(t, "P8.3", x.d, "out", file(size, l))
			if got, info, e := parsed(x.d, size); e != api.OK || !slices.Equal(got, l) || info != recfile.Sum(l) {
				t.Errorf("P8.3: %d records of %d bytes come back as %d, %v, %d", len(l), size, len(got), info, e)
			}
			if x.b.Now() != 3 || x.b.High() != 7 {
				t.Errorf("P8.3: in memory %d, at most %d, want 3, 7", x.b.Now(), x.b.High())
			}
		}
	}
}

// parsed answers the records of what is kept of the file out.
func parsed(d *fs.Disk, size int) ([]string, api.Info, api.Errno) {
	s, _ := bytesOf(d, "out", 0)
	return recfile.Parse(size, s)
}

// TestFileLong: P8.3, many records, of which a budget of four is enough.
func TestFileLong(t *testing.T) {
	d, b, l := disk(t, api.MaxDisk), budget.New(4), records(3, 100003)
	w := create(t, d, b, "out", 3)
	fill(t, w, l)
	closes(t, "P8.3", w, l)
	if got, _, e := parsed(d, 3); e != api.OK || !slices.Equal(got, l) {
		t.Errorf("P8.3: %d records come back, %d", len(got), e)
	}
	if b.Now() != 0 || b.High() != 4 {
		t.Errorf("P8.3: in memory %d, at most %d", b.Now(), b.High())
	}
}

// TestSeveral: P8.3, writers over one disk and one budget have nothing of one another.
func TestSeveral(t *testing.T) {
	d, b := disk(t, 1<<20), budget.New(26)
	var all []*Writer
	for i := range 6 {
		all = append(all, create(t, d, b, "out."+strconv.Itoa(i), 1+9*i))
	}
	if w, e := Create(d, b, "more", 1); w != nil || e != api.ErrBudget {
		t.Errorf("P8.1: one more: %v, %d", w, e)
	}
	lists := make([][]string, len(all))
	for turn := range 40 {
		for i, w := range all {
			if (turn+i)%3 > 0 {
				record := rolled(uint32(100*turn+i), 1+9*i)
				lists[i] = append(lists[i], record)
				want(t, "P8.2: Put", w.Put(record), api.OK)
			}
		}
	}
	all[2].Drop()
	for i, w := range all {
		if i != 2 {
			closes(t, "P8.3", w, lists[i])
			keeps(t, "P8.3", d, "out."+strconv.Itoa(i), file(1+9*i, lists[i]))
		}
	}
	has(t, "P8.2", d, "out.2", begun(19, lists[2]))
	if b.Now() != 0 || b.High() != 24 {
		t.Errorf("P8.3: in memory %d, at most %d", b.Now(), b.High())
	}
}

// write writes a file as far as it may be: the first error.
func write(d *fs.Disk, b *budget.Budget, size int, l []string) api.Errno {
	w, e := Create(d, b, "out", size)
	if e != api.OK {
		return e
	}
	for _, record := range l {
		if e := w.Put(record); e != api.OK {
			return e
		}
	}
	_, e = w.Close()
	return e
}

// TestFalls: P8.3, wherever the machine falls, the file is not whole, and the budget is as it was.
func TestFalls(t *testing.T) {
	for n := range 10 {
		l := records(4, n)
		calls := 2 + (n+3)/4 + 2
		for at := range calls + 1 {
			d, b := disk(t, 1000), budget.New(9)
			b.Take(5)
			d.Arm(at)
			wanted := api.ErrDown
			if at == calls {
				wanted = api.OK
			}
			want(t, "P8.2: written", write(d, b, 4, l), wanted)
			if d.Calls() != min(at+1, calls) || b.Now() != 5 {
				t.Errorf("P8.2: calls %d, in memory %d, want %d, 5", d.Calls(), b.Now(), min(at+1, calls))
			}
			d.Rise(nil)
			_, _, e := parsed(d, 4)
			if (e == api.OK) != (wanted == api.OK) {
				t.Errorf("P8.3: of %d records a fall at %d leaves a file of error %d", n, at, e)
			}
		}
	}
}
