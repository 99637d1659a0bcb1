package part

import (
	"encoding/binary"
	"maps"
	"math"
	"math/bits"
	"slices"
	"strconv"
	"strings"
	"testing"

	"chainman/api"
	"chainman/budget"
	"chainman/cell"
	"chainman/frame"
	"chainman/fs"
	"chainman/rec"
	"chainman/recfile"
)

// place answers a place.
func place(x, y int) api.Place { return api.Place{X: x, Y: y} }

// of answers a part.
func of(x, y, first, count int) Part { return Part{Place: place(x, y), First: first, Count: count} }

// octets answers numbers in four bytes each, the highest first.
func octets(numbers ...int) string {
	var all []byte
	for _, n := range numbers {
		all = binary.BigEndian.AppendUint32(all, uint32(n))
	}
	return string(all)
}

// told answers a part's record, as the document's words tell of it.
func told(p Part) string { return octets(p.Place.X+1<<31, p.Place.Y+1<<31, p.First, p.Count) }

func file(size int, l []string) string {
	s, _ := recfile.Lay(size, l)
	return s
}

// with answers a disk of that room that has those files, all of them kept.
func with(t *testing.T, room int, files map[string]string) *fs.Disk {
	t.Helper()
	d, e := fs.New(room)
	if e != api.OK {
		t.Fatalf("a disk of %d: error %d", room, e)
	}
	for _, name := range slices.Sorted(maps.Keys(files)) {
		for _, e := range []api.Errno{d.Create(name), d.Append(name, files[name]), d.Sync(name)} {
			if e != api.OK {
				t.Fatalf("the file %s: error %d", name, e)
			}
		}
	}
	return d
}

// one answers a disk that has the file a.
func one(t *testing.T, bytes string) *fs.Disk {
	t.Helper()
	return with(t, len(bytes)+1000, map[string]string{"a": bytes})
}

// now answers the disk's files and their bytes.
func now(d *fs.Disk) map[string]string {
	names, _ := d.List()
	all := map[string]string{}
	for _, name := range names {
		n, _ := d.Size(name)
		all[name], _ = d.Read(name, 0, n)
	}
	return all
}

// after answers the disk's files and their bytes behind a fall of which nothing stays that waited; the disk stays as it was.
func after(d *fs.Disk) map[string]string {
	c := d.Clone()
	c.Rise(nil)
	return now(c)
}

// same fails the test, if there are other files than wanted, or other bytes of them.
func same(t *testing.T, promise string, got, wanted map[string]string) {
	t.Helper()
	if !maps.Equal(got, wanted) {
		t.Errorf("%s: the disk has %x, want %x", promise, got, wanted)
	}
}

// dice gives numbers that look like no others, always the same ones of a seed.
type dice uint32

func (x *dice) below(n int) int {
	*x = *x*1664525 + 1013904223
	return int(uint32(*x)>>8) % n
}

// edges are numbers that a coordinate may be.
func edges() []int {
	return []int{0, 1, -1, 2, -2, 255, 256, -256, 1 << 24, -1 << 24, 1<<31 - 2, 1<<31 - 1, -1<<31 + 1, -1 << 31}
}

// beyond are numbers that no coordinate may be.
func beyond() []int {
	return []int{1 << 31, 1<<31 + 1, -1<<31 - 1, -1<<31 - 2, 1<<32 - 1, 1 << 32, -1 << 32, 1 << 62, math.MaxInt, math.MaxInt - 1<<31, math.MaxInt - 1<<31 + 1, math.MinInt, math.MinInt + 1<<31}
}

// TestPut: P24.1, parts at all edges have their record, which says them.
func TestPut(t *testing.T) {
	if Size != 16 {
		t.Errorf("Size is %d, want 16", Size)
	}
	for _, x := range edges() {
		for _, y := range edges() {
			for _, first := range []int{0, 1, 255, 256, 65536, 1<<20 - 2, 1<<20 - 1} {
				for _, count := range []int{1, 2, 256, 65536, 1<<20 - 1, 1 << 20} {
					p := of(x, y, first, count)
					if s, ok := Put(p); s != told(p) || !ok {
						t.Fatalf("P24.1: Put(%v) = %x, %v, want %x, true", p, s, ok, told(p))
					}
					if q, ok := Get(told(p)); q != p || !ok {
						t.Fatalf("P24.1: Get(%x) = %v, %v, want %v, true", told(p), q, ok, p)
					}
				}
			}
		}
	}
}

// TestPutBytes: P24.1, a record by hand.
func TestPutBytes(t *testing.T) {
	s, ok := Put(of(-1, 258, 3, 1<<20))
	if wanted := "\x7f\xff\xff\xff\x80\x00\x01\x02\x00\x00\x00\x03\x00\x10\x00\x00"; s != wanted || !ok {
		t.Errorf("P24.1: Put = %x, %v, want %x, true", s, ok, wanted)
	}
}

// TestPutWrong: P24.1, none and false of parts that may not be.
func TestPutWrong(t *testing.T) {
	wrong := []Part{{}}
	for _, n := range beyond() {
		wrong = append(wrong, of(n, 0, 0, 1), of(0, n, 0, 1), of(n, n, 5, 5))
	}
	for _, first := range []int{-1, -2, 1 << 20, 1<<20 + 1, 1 << 31, 1 << 32, math.MaxInt, math.MinInt} {
		wrong = append(wrong, of(0, 0, first, 1), of(3, 4, first, 1<<20))
	}
	for _, count := range []int{0, -1, 1<<20 + 1, 1<<20 + 2, 1 << 31, 1<<32 + 1, math.MaxInt, math.MinInt} {
		wrong = append(wrong, of(0, 0, 0, count), of(3, 4, 1<<20-1, count))
	}
	for _, p := range wrong {
		if s, ok := Put(p); s != "" || ok {
			t.Errorf("P24.1: Put(%v) = %x, %v, want none, false", p, s, ok)
		}
	}
}

// TestGetWrong: P24.1, zero and false of bytes that are no part's record.
func TestGetWrong(t *testing.T) {
	good := told(of(1, 2, 3, 4))
	wrong := []string{good + "\x00", "\x00" + good, good + good, strings.Repeat("\x00", 16), strings.Repeat("\xff", 16)}
	for n := range good {
		wrong = append(wrong, good[:n])
	}
	for _, first := range []int{1 << 20, 1<<20 + 1, 1 << 31, 1<<32 - 1} {
		wrong = append(wrong, octets(0, 0, first, 1))
	}
	for _, count := range []int{0, 1<<20 + 1, 1<<20 + 2, 1 << 31, 1<<32 - 1} {
		wrong = append(wrong, octets(0, 0, 0, count))
	}
	for _, s := range wrong {
		if p, ok := Get(s); p != (Part{}) || ok {
			t.Errorf("P24.1: Get(%x) = %v, %v, want zero, false", s, p, ok)
		}
	}
}

// records answers so many records of a size, no two of them alike.
func records(size, n int) []string {
	var l []string
	for i := range n {
		l = append(l, strings.Repeat(string([]byte{byte(i + 1)}), size))
	}
	return l
}

// asks fails the test, if At answers otherwise, or makes other than so many calls of the disk, or keeps some of the budget, of which three are taken.
func asks(t *testing.T, d *fs.Disk, bound int, name string, size, n, i int, wanted string, failure api.Errno, calls int) {
	t.Helper()
	b := budget.New(bound)
	b.Take(min(3, bound))
	ahead := d.Calls()
	s, e := At(d, b, name, size, n, i)
	if s != wanted || e != failure {
		t.Errorf("P24.2: At(%q, %d, %d, %d) = %x, %d, want %x, %d", name, size, n, i, s, e, wanted, failure)
	}
	if made := d.Calls() - ahead; made != calls {
		t.Errorf("P24.2: At(%q, %d, %d, %d) made %d calls, want %d", name, size, n, i, made, calls)
	}
	if b.Now() != min(3, bound) {
		t.Errorf("P24.2: At(%q, %d, %d, %d): in memory %d, want %d", name, size, n, i, b.Now(), min(3, bound))
	}
}

// TestAt: P24.2, each record of files of all sizes, by one call, with just four of the budget.
func TestAt(t *testing.T) {
	for size := 1; size <= 64; size++ {
		for n := range 14 {
			l := records(size, n)
			d := one(t, file(size, l))
			for i, record := range l {
				asks(t, d, 7, "a", size, n, i, record, api.OK, 1)
			}
			for _, i := range []int{-1, n, n + 1, math.MaxInt, math.MinInt} {
				asks(t, d, 7, "a", size, n, i, "", api.ErrRange, 0)
			}
		}
	}
}

// TestAtHigh: P24.2, four of the budget are taken on the way.
func TestAtHigh(t *testing.T) {
	d, b := one(t, file(1, records(1, 5))), budget.New(100)
	b.Take(10)
	if s, e := At(d, b, "a", 1, 5, 4); s != "\x05" || e != api.OK || b.High() != 14 || b.Now() != 10 {
		t.Errorf("P24.2: At = %x, %d, in memory %d, at most %d", s, e, b.Now(), b.High())
	}
}

// TestAtFirstError: P24.2, the size is asked for first, then the place, the budget, and the disk.
func TestAtFirstError(t *testing.T) {
	d := one(t, file(2, records(2, 9)))
	for _, size := range []int{0, -1, 65, 66, 256, math.MaxInt, math.MinInt} {
		asks(t, d, 7, "a", size, 9, 0, "", api.ErrArg, 0)
		asks(t, d, 3, "A", size, 9, 9, "", api.ErrArg, 0)
	}
	for _, n := range []int{0, -1, -5, math.MinInt, 4} {
		for _, i := range []int{max(n, 0), -1, math.MaxInt, math.MinInt} {
			asks(t, d, 7, "a", 2, n, i, "", api.ErrRange, 0)
			asks(t, d, 3, "A", 2, n, i, "", api.ErrRange, 0)
		}
	}
	for bound := range 7 {
		asks(t, d, bound, "a", 2, 9, 0, "", api.ErrBudget, 0)
		asks(t, d, bound, "A", 2, 9, 0, "", api.ErrBudget, 0)
	}
	asks(t, d, 7, "A", 2, 9, 0, "", api.ErrArg, 0)
	asks(t, d, 7, "", 2, 9, 0, "", api.ErrArg, 0)
	asks(t, d, 7, "none", 2, 9, 0, "", api.ErrNone, 1)
	d.Arm(0)
	asks(t, d, 7, "none", 2, 9, 0, "", api.ErrDown, 1)
	asks(t, d, 7, "a", 2, 9, 8, "", api.ErrDown, 1)
}

// TestAtNotMade: P24.2, of disks and budgets that New did not give.
func TestAtNotMade(t *testing.T) {
	asks(t, nil, 7, "a", 1, 1, 0, "", api.ErrArg, 0)
	asks(t, &fs.Disk{}, 7, "a", 1, 1, 0, "", api.ErrArg, 0)
	d := one(t, file(1, records(1, 1)))
	for _, b := range []*budget.Budget{nil, {}} {
		if s, e := At(d, b, "a", 1, 1, 0); s != "" || e != api.ErrArg {
			t.Errorf("P24.2: At of no budget = %x, %d, want none, %d", s, e, api.ErrArg)
		}
		if _, e := At(d, b, "a", 1, 1, 1); e != api.ErrRange {
			t.Errorf("P24.2: At of no budget and no place: error %d, want %d", e, api.ErrRange)
		}
	}
}

// TestAtTurned: P24.2, wherever a bit is turned, just those of its block are lost.
func TestAtTurned(t *testing.T) {
	const size, n = 3, 11
	l := records(size, n)
	whole := file(size, l)
	for at := range 8 * len(whole) {
		d := one(t, whole)
		d.Turn("a", at, 1)
		turned := -1
		if far := at/8 - recfile.Head; far >= 0 && at/8 < len(whole)-frame.End {
			turned = far / frame.Room(size)
		}
		for i, record := range l {
			if i/4 == turned {
				asks(t, d, 7, "a", size, n, i, "", api.ErrCorrupt, 1)
			} else {
				asks(t, d, 7, "a", size, n, i, record, api.OK, 1)
			}
		}
	}
}

// TestAtTold: P24.2, a file that has other than as many records as are told.
func TestAtTold(t *testing.T) {
	const size = 5
	for n := range 18 {
		l := records(size, n)
		bytes := file(size, l)
		d := one(t, bytes)
		for more := 1; more < 24; more++ {
			for i := range more {
				must := min(4, more-i/4*4) // records of its block
				at := recfile.Head + i/4*frame.Room(size)
				switch {
				case i/4*4+must <= n && must == min(4, n-i/4*4):
					asks(t, d, 7, "a", size, more, i, l[i], api.OK, 1)
				case at+1+must*size+4 > len(bytes):
					asks(t, d, 7, "a", size, more, i, "", api.ErrRange, 1)
				default:
					asks(t, d, 7, "a", size, more, i, "", api.ErrCorrupt, 1)
				}
			}
		}
	}
}

// TestAtSizes: P24.2, a file of records of another size has no such blocks.
func TestAtSizes(t *testing.T) {
	d := one(t, file(8, records(8, 12)))
	asks(t, d, 7, "a", 8, 12, 0, "\x01\x01\x01\x01\x01\x01\x01\x01", api.OK, 1)
	for _, size := range []int{1, 2, 4, 7, 9, 16} {
		asks(t, d, 7, "a", size, 12, 0, "", api.ErrCorrupt, 1)
	}
	asks(t, d, 7, "a", 64, 12, 0, "", api.ErrRange, 1)
	asks(t, one(t, ""), 7, "a", 8, 1, 0, "", api.ErrRange, 1)
}

// TestAtFar: P24.2, places so far that they wrap round are behind the end of each file, and not where a block stands.
func TestAtFar(t *testing.T) {
	tried := 0
	for size := 1; size <= 64; size++ {
		block, _ := frame.Put(size, slices.Repeat([]string{strings.Repeat("x", size)}, 4))
		for shift := range 40 {
			number := farBlock(size, uint64(shift))
			if number < 1<<40 || number >= 1<<61 {
				continue // its place does not wrap round, or no number of a record is as great
			}
			tried++
			d := one(t, strings.Repeat("\x00", shift)+block)
			for i := range 4 {
				asks(t, d, 7, "a", size, math.MaxInt, int(number)*4+i, "", api.ErrRange, 1)
			}
		}
	}
	if tried < 100 {
		t.Errorf("P24.2: just %d places that wrap round", tried)
	}
	d := one(t, file(1, records(1, 9)))
	for _, i := range []int{1 << 20, 1 << 24, 1 << 26, 1 << 31, 1 << 40, 1 << 60, 1 << 61, 1 << 62, math.MaxInt - 4, math.MaxInt - 1} {
		asks(t, d, 7, "a", 1, i+1, i, "", api.ErrRange, 1)
		asks(t, d, 7, "a", 1, math.MaxInt, i, "", api.ErrRange, 1)
		asks(t, d, 7, "none", 1, math.MaxInt, i, "", api.ErrNone, 1)
	}
}

// farBlock answers the number of the block whose place, once it wrapped round, is at: a block has an odd number of bytes, by which all can be divided then.
func farBlock(size int, at uint64) uint64 {
	room := uint64(frame.Room(size))
	inverse := room
	for range 6 {
		inverse *= 2 - room*inverse
	}
	return (at - recfile.Head) * inverse
}

// vector is a cell and an id.
type vector struct {
	place api.Place
	id    int
}

// cells answers the records of vectors, as they are.
func cells(t *testing.T, l ...vector) []string {
	t.Helper()
	var all []string
	for _, v := range l {
		s, ok := rec.PutCell(v.place, v.id)
		if !ok {
			t.Fatalf("%v has no record", v)
		}
		all = append(all, s)
	}
	return all
}

// rolled answers n vectors in order, in a square of so many places a side; coordinates are far apart, if that is asked for.
func rolled(x *dice, n, side int, far bool) []vector {
	grow := 1
	if far {
		grow = (1<<32 - 1) / max(side-1, 1)
	}
	var l []vector
	for id := range n {
		p := place(x.below(side)*grow-1<<31, x.below(side)*grow-1<<31)
		if !far {
			p = place(x.below(side)-side/2, x.below(side)-side/2)
		}
		l = append(l, vector{p, id})
	}
	slices.SortFunc(l, func(v, w vector) int {
		switch {
		case cell.Less(v.place, w.place):
			return -1
		case cell.Less(w.place, v.place):
			return 1
		}
		return v.id - w.id
	})
	return l
}

// parted answers the vectors' parts, as the document's words tell of them.
func parted(l []vector) []Part {
	var all []Part
	for i, v := range l {
		at := slices.IndexFunc(all, func(p Part) bool { return p.Place == v.place })
		if at < 0 {
			at = len(all)
			all = append(all, Part{Place: v.place, First: i})
		}
		all[at].Count++
	}
	return all
}

// laid answers the parts' records.
func laid(l []Part) []string {
	var all []string
	for _, p := range l {
		all = append(all, told(p))
	}
	return all
}

// builds fails the test, if Build of the vectors does not come to their parts, or needs more than 8 of the budget.
func builds(t *testing.T, l []vector) {
	t.Helper()
	in, parts := file(rec.CellSize, cells(t, l...)), laid(parted(l))
	d := with(t, 1<<20, map[string]string{"a": in})
	b := budget.New(8 + 3)
	b.Take(3)
	x, e := Build(d, b, "a", "b")
	if x != recfile.Sum(parts) || e != api.OK {
		t.Errorf("P24.3: Build of %d records = %v, %d, want %v, 0", len(l), x, e, recfile.Sum(parts))
	}
	if b.Now() != 3 || b.High() > 8+3 {
		t.Errorf("P24.3: Build of %d records: in memory %d, at most %d", len(l), b.Now(), b.High())
	}
	same(t, "P24.3", after(d), map[string]string{"a": in, "b": file(Size, parts)})
}

// TestBuild: P24.3, the chapter's example, and files of all kinds.
func TestBuild(t *testing.T) {
	builds(t, nil)
	a, b := place(1, 0), place(2, 0)
	builds(t, []vector{{a, 0}, {a, 2}, {b, 1}})
	for _, p := range []api.Place{{}, a, place(-1, 5), place(0, 1), place(0, -1), place(-1<<31, -1<<31), place(1<<31-1, 1<<31-1)} {
		builds(t, []vector{{p, 7}})
		builds(t, []vector{{p, 7}, {p, 9}, {p, 1<<20 - 1}})
	}
	builds(t, []vector{{place(-1, 0), 5}, {place(0, -1), 4}, {place(0, 0), 3}, {place(0, 1), 2}, {place(1, -1), 1}, {place(1, 1), 0}})
	x := dice(1)
	for n := range 60 {
		builds(t, rolled(&x, n, 1, false))
		builds(t, rolled(&x, n, 3, false))
		builds(t, rolled(&x, n, 40, false))
		builds(t, rolled(&x, n, 4, true))
	}
}

// TestBuildExample: P24.3, the chapter's example by hand.
func TestBuildExample(t *testing.T) {
	a, b := place(1, 0), place(2, 0)
	d := one(t, file(12, cells(t, vector{a, 0}, vector{a, 2}, vector{b, 1})))
	if x, e := Build(d, budget.New(8), "a", "b"); x.Count != 2 || e != api.OK {
		t.Errorf("P24.3: Build = %v, %d, want 2, 0", x, e)
	}
	wanted := file(16, []string{octets(1<<31+1, 1<<31, 0, 2), octets(1<<31+2, 1<<31, 2, 1)})
	if got := after(d)["b"]; got != wanted {
		t.Errorf("P24.3: the file has %x, want %x", got, wanted)
	}
}

// TestBuildLike: P24.3, like records are not one below the other, and are all counted.
func TestBuildLike(t *testing.T) {
	p, q := place(0, 0), place(0, 1)
	builds(t, []vector{{p, 4}, {p, 4}, {p, 4}, {q, 2}, {q, 2}})
	builds(t, slices.Repeat([]vector{{q, 0}}, 21))
}

// fails fails the test, if Build has another error, or something beside it, or keeps some of the budget.
func fails(t *testing.T, d *fs.Disk, b *budget.Budget, in, out string, wanted api.Errno) {
	t.Helper()
	held := b.Now()
	x, e := Build(d, b, in, out)
	if x != (api.Info{}) || e != wanted {
		t.Errorf("P24.3: Build(%q, %q) = %v, %d, want none, %d", in, out, x, e, wanted)
	}
	if b.Now() != held {
		t.Errorf("P24.3: Build(%q, %q): in memory %d, want %d", in, out, b.Now(), held)
	}
}

// TestBuildFiles: P24.3, what is read is opened first, and then what is written is made.
func TestBuildFiles(t *testing.T) {
	files := map[string]string{"a": file(12, nil), "cut": file(12, nil)[:10], "pairs": file(8, nil), "there": ""}
	for _, x := range []struct {
		in, out string
		wanted  api.Errno
	}{
		{"none", "b", api.ErrNone}, {"A", "b", api.ErrArg}, {"", "b", api.ErrArg}, {"cut", "b", api.ErrCorrupt}, {"pairs", "b", api.ErrCorrupt}, {"there", "b", api.ErrCorrupt},
		{"none", "B", api.ErrNone}, {"none", "there", api.ErrNone}, {"cut", "there", api.ErrCorrupt}, {"pairs", "", api.ErrCorrupt},
		{"a", "there", api.ErrThere}, {"a", "a", api.ErrThere}, {"a", "B", api.ErrArg}, {"a", "", api.ErrArg}, {"a", strings.Repeat("b", 25), api.ErrArg},
	} {
		d := with(t, 1000, files)
		fails(t, d, budget.New(8), x.in, x.out, x.wanted)
		same(t, "P24.3", now(d), files)
	}
}

// TestBuildBudget: P24.3, eight of the budget have to be left, and no more; that is told ahead of what the disk has.
func TestBuildBudget(t *testing.T) {
	x := dice(2)
	in := file(12, cells(t, rolled(&x, 30, 5, false)...))
	for bound := range 8 {
		fails(t, one(t, in), budget.New(bound), "a", "b", api.ErrBudget)
		b := budget.New(20)
		b.Take(20 - bound)
		fails(t, one(t, in), b, "a", "b", api.ErrBudget)
	}
	fails(t, one(t, in), budget.New(3), "none", "b", api.ErrBudget)
	fails(t, one(t, in), budget.New(7), "none", "b", api.ErrNone)
	fails(t, one(t, in), budget.New(7), "a", "a", api.ErrBudget)
}

// TestBuildNotMade: P24.3, of disks and budgets that New did not give.
func TestBuildNotMade(t *testing.T) {
	fails(t, nil, budget.New(8), "a", "b", api.ErrArg)
	fails(t, &fs.Disk{}, budget.New(8), "a", "b", api.ErrArg)
	fails(t, one(t, file(12, nil)), nil, "a", "b", api.ErrArg)
	fails(t, one(t, file(12, nil)), &budget.Budget{}, "a", "b", api.ErrArg)
}

// TestBuildNoCell: P24.3, one record anywhere that is no cell's.
func TestBuildNoCell(t *testing.T) {
	var l []vector
	for i := range 10 {
		l = append(l, vector{place(i/3, 0), i})
	}
	for at := range l {
		for _, id := range []int{1 << 20, 1 << 31, 1<<32 - 1} {
			records := cells(t, l...)
			records[at] = records[at][:8] + octets(id)
			fails(t, one(t, file(12, records)), budget.New(8), "a", "b", api.ErrCorrupt)
		}
	}
	good := cells(t, vector{place(5, 5), 0})
	fails(t, one(t, file(12, append(good, octets(1, 1, 1<<20)))), budget.New(8), "a", "b", api.ErrCorrupt) // below the one ahead, too
}

// TestBuildOrder: P24.3, one record anywhere that is below the one ahead, by X, Y, or the id.
func TestBuildOrder(t *testing.T) {
	var l []vector
	for i := range 12 {
		l = append(l, vector{place(i/6, i/3%2), 100 + i})
	}
	for at := range l {
		v := l[at]
		for _, low := range []vector{{place(v.place.X-1, v.place.Y+1), v.id + 9}, {place(v.place.X, v.place.Y-1), v.id + 9}, {v.place, v.id - 1}} {
			records := slices.Insert(cells(t, l...), at+1, cells(t, low)...)
			fails(t, one(t, file(12, records)), budget.New(8), "a", "b", api.ErrOrder)
		}
	}
	p := place(-3, -3)
	for _, l := range [][]vector{{{place(1, 0), 0}, {place(-1, 0), 1}}, {{place(0, 1), 0}, {place(0, -1), 1}}, {{p, 256}, {p, 255}}, {{p, 0}, {place(0, 0), 1}, {p, 2}}} {
		fails(t, one(t, file(12, cells(t, l...))), budget.New(8), "a", "b", api.ErrOrder)
	}
}

// TestBuildFirstError: P24.3, what is wrong first is told, also what is wrong with the record that ends a part, ahead of its writing.
func TestBuildFirstError(t *testing.T) {
	p, q := place(3, 3), place(4, 4)
	down, wrong := cells(t, vector{p, 9}, vector{p, 8})[1], octets(5, 5, 1<<20)
	ahead := cells(t, vector{p, 9})
	fails(t, one(t, file(12, append(slices.Clone(ahead), down, wrong))), budget.New(8), "a", "b", api.ErrOrder)
	fails(t, one(t, file(12, append(slices.Clone(ahead), wrong, down))), budget.New(8), "a", "b", api.ErrCorrupt)
	low := cells(t, vector{place(-3, 0), 9})[0]
	var l []vector
	for i := range 4 {
		l = append(l, vector{place(i, i), i})
	}
	for _, x := range []struct {
		last   string
		wanted api.Errno
	}{{low, api.ErrOrder}, {octets(1<<31+9, 0, 1<<20), api.ErrCorrupt}, {cells(t, vector{q, 9})[0], api.ErrFull}} {
		in := file(12, append(cells(t, l...), x.last)) // the last one ends the fourth part, with which a block is whole
		d := with(t, len(in)+recfile.Head, map[string]string{"a": in})
		fails(t, d, budget.New(8), "a", "b", x.wanted)
	}
}

// TestBuildTurned: P24.3, wherever a bit of the file is turned.
func TestBuildTurned(t *testing.T) {
	x := dice(3)
	in := file(12, cells(t, rolled(&x, 7, 3, false)...))
	for at := range 8 * len(in) {
		d := one(t, in)
		d.Turn("a", at, 1)
		fails(t, d, budget.New(8), "a", "b", api.ErrCorrupt)
	}
	for n := range in {
		fails(t, one(t, in[:n]), budget.New(8), "a", "b", api.ErrCorrupt)
	}
	fails(t, one(t, in+"\x00"), budget.New(8), "a", "b", api.ErrCorrupt)
}

// TestBuildFull: P24.3, a disk that is full on the way, or has no more files.
func TestBuildFull(t *testing.T) {
	x := dice(4)
	l := rolled(&x, 20, 4, false)
	in, out := file(12, cells(t, l...)), file(16, laid(parted(l)))
	for room := len(in); room < len(in)+len(out); room++ {
		fails(t, with(t, room, map[string]string{"a": in}), budget.New(8), "a", "b", api.ErrFull)
	}
	d := with(t, len(in)+len(out), map[string]string{"a": in})
	if _, e := Build(d, budget.New(8), "a", "b"); e != api.OK {
		t.Errorf("P24.3: Build into just the room: error %d", e)
	}
	same(t, "P24.3", after(d), map[string]string{"a": in, "b": out})
	many := map[string]string{}
	for i := range api.MaxFiles {
		many["a"+strconv.Itoa(i)] = file(12, nil)
	}
	fails(t, with(t, 1<<20, many), budget.New(8), "a0", "b", api.ErrFull)
}

// TestBuildFalls: P24.3, wherever the machine falls that is told; the file is read once, and written once.
func TestBuildFalls(t *testing.T) {
	var l []vector
	for i := range 9 {
		l = append(l, vector{place(i/2, 0), i})
	}
	in := file(12, cells(t, l...))
	const calls = 2 + 2 + (3 + 1) + (2 + 1) + 1 // opened, made, three blocks and the end read, two blocks and the end written, kept
	for n := range calls {
		d := one(t, in)
		ahead := d.Calls()
		d.Arm(n)
		fails(t, d, budget.New(8), "a", "b", api.ErrDown)
		if made := d.Calls() - ahead; made != n+1 {
			t.Errorf("P24.3: a fall at call %d: %d calls", n, made)
		}
		if got := after(d)["a"]; got != in {
			t.Errorf("P24.3: a fall at call %d: the file that is read has %x", n, got)
		}
	}
	d := one(t, in)
	d.Arm(calls)
	if x, e := Build(d, budget.New(8), "a", "b"); x.Count != 5 || e != api.OK {
		t.Errorf("P24.3: Build = %v, %d", x, e)
	}
}

// TestBuildMost: P24.3, a cell of all ids there may be; and one that begins behind all of them but the last; more records than that come to an error.
func TestBuildMost(t *testing.T) {
	p, q := place(1, 2), place(3, 4)
	var l []string
	for id := range api.MaxVec {
		s, _ := rec.PutCell(p, id)
		l = append(l, s)
	}
	last, _ := rec.PutCell(q, 0)
	more, _ := rec.PutCell(p, api.MaxVec-1)
	for _, x := range []struct {
		l      []string
		wanted []Part
	}{
		{l, []Part{of(1, 2, 0, 1<<20)}},
		{append(l[:len(l)-1:len(l)-1], last), []Part{of(1, 2, 0, 1<<20-1), of(3, 4, 1<<20-1, 1)}},
		{append(slices.Clip(l), more), nil},
		{append(slices.Clip(l), last), nil},
	} {
		d := with(t, api.MaxDisk, map[string]string{"a": file(12, x.l)})
		b := budget.New(8)
		got, e := Build(d, b, "a", "b")
		if b.Now() != 0 {
			t.Errorf("P24.3: Build of %d records: in memory %d", len(x.l), b.Now())
		}
		if x.wanted == nil {
			if e == api.OK || got != (api.Info{}) {
				t.Errorf("P24.3: Build of %d records = %v, %d, want an error", len(x.l), got, e)
			}
			continue
		}
		if got != recfile.Sum(laid(x.wanted)) || e != api.OK {
			t.Errorf("P24.3: Build of %d records = %v, %d, want %d parts", len(x.l), got, e, len(x.wanted))
		}
		if got := after(d)["b"]; got != file(16, laid(x.wanted)) {
			t.Errorf("P24.3: Build of %d records: the file has %x", len(x.l), got)
		}
	}
}

// spread answers n parts whose places are apart, by X or by Y, so that there are others between them.
func spread(n int) []Part {
	var l []Part
	for i := range n {
		l = append(l, of(i/3*2-7, i%3*2-3, i*5, i%4+1))
	}
	return l
}

// seeks fails the test, if Find answers otherwise, with just four of the budget, or keeps some of it.
func seeks(t *testing.T, d *fs.Disk, n int, p api.Place, wanted Part, has bool, failure api.Errno) {
	t.Helper()
	b := budget.New(4 + 3)
	b.Take(3)
	got, ok, e := Find(d, b, "a", n, p)
	if got != wanted || ok != has || e != failure {
		t.Errorf("P24.3: Find(%d, %v) = %v, %v, %d, want %v, %v, %d", n, p, got, ok, e, wanted, has, failure)
	}
	if b.Now() != 3 {
		t.Errorf("P24.3: Find(%d, %v): in memory %d, want 3", n, p, b.Now())
	}
}

// TestFind: P24.3, each part is found, and no other place; no more is read than halving asks for.
func TestFind(t *testing.T) {
	for n := range 50 {
		l := spread(n)
		d := one(t, file(Size, laid(l)))
		for x := -10; x < 30; x++ {
			for y := -5; y < 4; y++ {
				p := place(x, y)
				at := slices.IndexFunc(l, func(q Part) bool { return q.Place == p })
				ahead := d.Calls()
				if at < 0 {
					seeks(t, d, n, p, Part{}, false, api.OK)
				} else {
					seeks(t, d, n, p, l[at], true, api.OK)
				}
				if made := d.Calls() - ahead; made > bits.Len(uint(n)) {
					t.Errorf("P24.3: Find(%d, %v) made %d calls", n, p, made)
				}
			}
		}
	}
}

// TestFindEdges: P24.3, places at the edges of the plane, and behind them.
func TestFindEdges(t *testing.T) {
	low, high := -1<<31, 1<<31-1
	l := []Part{of(low, low, 0, 1), of(low, high, 1, 2), of(-1, 0, 3, 1), of(0, -1, 4, 1), of(0, 0, 5, 1), of(high, low, 6, 7), of(high, high, 13, 1<<20)}
	d := one(t, file(Size, laid(l)))
	for _, p := range l {
		seeks(t, d, len(l), p.Place, p, true, api.OK)
	}
	for _, n := range beyond() {
		for _, p := range []api.Place{place(n, 0), place(0, n), place(n, n), place(low, n), place(high, n)} {
			seeks(t, d, len(l), p, Part{}, false, api.OK)
		}
	}
}

// TestFindMiddle: P24.3, of 15 parts just those on the way are read, each in the middle of those that are left.
func TestFindMiddle(t *testing.T) {
	l := spread(15)
	ways := [15][]int{
		{7, 3, 1, 0}, {7, 3, 1}, {7, 3, 1, 2}, {7, 3}, {7, 3, 5, 4}, {7, 3, 5}, {7, 3, 5, 6}, {7},
		{7, 11, 9, 8}, {7, 11, 9}, {7, 11, 9, 10}, {7, 11}, {7, 11, 13, 12}, {7, 11, 13}, {7, 11, 13, 14},
	}
	for i, way := range ways {
		d := one(t, file(Size, laid(l)))
		ahead := d.Calls()
		seeks(t, d, 15, l[i].Place, l[i], true, api.OK)
		if made := d.Calls() - ahead; made != len(way) {
			t.Errorf("P24.3: part %d of 15: %d calls, want %d", i, made, len(way))
		}
		for block := range 4 {
			d := one(t, file(Size, laid(l)))
			d.Turn("a", 8*(recfile.Head+block*frame.Room(Size)+2), 1)
			if slices.ContainsFunc(way, func(at int) bool { return at/4 == block }) {
				seeks(t, d, 15, l[i].Place, Part{}, false, api.ErrCorrupt)
			} else {
				seeks(t, d, 15, l[i].Place, l[i], true, api.OK)
			}
		}
	}
}

// TestFindNone: P24.3, of no parts none is found, and nothing is asked of the disk.
func TestFindNone(t *testing.T) {
	d := one(t, file(Size, nil))
	for _, n := range []int{0, -1, -2, math.MinInt} {
		ahead := d.Calls()
		seeks(t, d, n, place(0, 0), Part{}, false, api.OK)
		if d.Calls() != ahead {
			t.Errorf("P24.3: Find of %d parts asks the disk", n)
		}
	}
}

// TestFindNoPart: P24.3, a record on the way that is none.
func TestFindNoPart(t *testing.T) {
	for _, wrong := range []string{octets(1<<31, 1<<31, 0, 0), octets(1<<31, 1<<31, 1<<20, 1), octets(1<<31, 1<<31, 0, 1<<20+1)} {
		seeks(t, one(t, file(Size, []string{wrong})), 1, place(0, 0), Part{}, false, api.ErrCorrupt)
		seeks(t, one(t, file(Size, []string{wrong})), 1, place(5, 5), Part{}, false, api.ErrCorrupt)
		records := laid(spread(7))
		records[5] = wrong
		d := one(t, file(Size, records))
		seeks(t, d, 7, spread(7)[6].Place, Part{}, false, api.ErrCorrupt)
		seeks(t, d, 7, spread(7)[0].Place, spread(7)[0], true, api.OK)
	}
}

// TestFindErrors: P24.3, the errors of At.
func TestFindErrors(t *testing.T) {
	l := spread(9)
	whole := file(Size, laid(l))
	d := one(t, whole)
	for bound := range 4 {
		if p, ok, e := Find(d, budget.New(bound), "a", 9, l[0].Place); p != (Part{}) || ok || e != api.ErrBudget {
			t.Errorf("P24.3: Find with %d of the budget = %v, %v, %d, want none, %d", bound, p, ok, e, api.ErrBudget)
		}
	}
	for name, wanted := range map[string]api.Errno{"none": api.ErrNone, "A": api.ErrArg, "": api.ErrArg} {
		if p, ok, e := Find(d, budget.New(4), name, 9, l[0].Place); p != (Part{}) || ok || e != wanted {
			t.Errorf("P24.3: Find in %q = %v, %v, %d, want none, %d", name, p, ok, e, wanted)
		}
	}
	for _, d := range []*fs.Disk{nil, {}} {
		seeks(t, d, 9, l[0].Place, Part{}, false, api.ErrArg)
	}
	for _, b := range []*budget.Budget{nil, {}} {
		if p, ok, e := Find(d, b, "a", 9, l[0].Place); p != (Part{}) || ok || e != api.ErrArg {
			t.Errorf("P24.3: Find with no budget = %v, %v, %d, want none, %d", p, ok, e, api.ErrArg)
		}
	}
	for _, n := range []int{100, 1 << 31, 1 << 62, math.MaxInt - 1, math.MaxInt} {
		seeks(t, d, n, l[0].Place, Part{}, false, api.ErrRange)
	}
	seeks(t, one(t, whole[:40]), 9, l[0].Place, Part{}, false, api.ErrRange)
}

// TestFindFalls: P24.3, wherever the machine falls that is told; of 7 parts the last one is come to by three calls.
func TestFindFalls(t *testing.T) {
	l := spread(7)
	for n := range 3 {
		d := one(t, file(Size, laid(l)))
		d.Arm(n)
		seeks(t, d, 7, l[6].Place, Part{}, false, api.ErrDown)
	}
	d := one(t, file(Size, laid(l)))
	d.Arm(3)
	seeks(t, d, 7, l[6].Place, l[6], true, api.OK)
}

// TestFollows: P24.4, parts have all records, one behind the other, and each is found.
func TestFollows(t *testing.T) {
	x := dice(5)
	for n := 1; n < 300; n += 13 {
		for _, side := range []int{1, 2, 5, 30} {
			l := rolled(&x, n, side, n%2 == 0)
			d := with(t, 1<<20, map[string]string{"cells": file(12, cells(t, l...))})
			b := budget.New(8)
			told, e := Build(d, b, "cells", "parts")
			if e != api.OK {
				t.Fatalf("P24.4: Build: error %d", e)
			}
			follows(t, d, b, l, told.Count)
		}
	}
}

// follows fails the test, if the parts of the file have not all vectors' records, one behind the other, or one is not found.
func follows(t *testing.T, d *fs.Disk, b *budget.Budget, l []vector, parts int) {
	t.Helper()
	next := 0
	for i := range parts {
		s, e := At(d, b, "parts", Size, parts, i)
		p, ok := Get(s)
		if e != api.OK || !ok || p.First != next {
			t.Fatalf("P24.4: part %d of %d is %v, %v, error %d, want one from %d on", i, parts, p, ok, e, next)
		}
		for at := p.First; at < p.First+p.Count; at++ {
			s, e := At(d, b, "cells", rec.CellSize, len(l), at)
			q, id, ok := rec.GetCell(s)
			if e != api.OK || !ok || (vector{q, id}) != l[at] || q != p.Place {
				t.Fatalf("P24.4: record %d is %v, %d, %v, error %d, want %v", at, q, id, ok, e, l[at])
			}
		}
		if q, ok, e := Find(d, b, "parts", parts, p.Place); q != p || !ok || e != api.OK {
			t.Fatalf("P24.4: Find(%v) = %v, %v, %d, want %v", p.Place, q, ok, e, p)
		}
		next += p.Count
	}
	if next != len(l) {
		t.Errorf("P24.4: parts have %d records, want %d", next, len(l))
	}
}
