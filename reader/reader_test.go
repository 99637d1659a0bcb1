package reader

import (
	"hash/crc32"
	"math"
	"slices"
	"strconv"
	"strings"
	"testing"
	"unsafe"

	"chainman/api"
	"chainman/budget"
	"chainman/crc"
	"chainman/frame"
	"chainman/fs"
	"chainman/recfile"
	"chainman/writer"
)

// bench is a disk and a budget, and a reader of the file in that stands over them.
type bench struct {
	d *fs.Disk
	b *budget.Budget
	r *Reader
}

// disk answers a disk with the file in, which has these bytes, all of which are kept: three calls.
func disk(t *testing.T, bytes string) *fs.Disk {
	t.Helper()
	d, e := fs.New(api.MaxDisk)
	want(t, "a disk", e, api.OK)
	add(t, d, "in", bytes)
	return d
}

func add(t *testing.T, d *fs.Disk, name, bytes string) {
	t.Helper()
	want(t, "Create", d.Create(name), api.OK)
	want(t, "Append", d.Append(name, bytes), api.OK)
	want(t, "Sync", d.Sync(name), api.OK)
}

// cut answers the disk's file in with just its first bytes: three calls.
func cut(t *testing.T, d *fs.Disk, length int) {
	t.Helper()
	s, e := d.Read("in", 0, length)
	want(t, "Read", e, api.OK)
	want(t, "Remove", d.Remove("in"), api.OK)
	add(t, d, "in", s)
}

func open(t *testing.T, d *fs.Disk, b *budget.Budget, name string, size int) *Reader {
	t.Helper()
	r, e := Open(d, b, name, size)
	if r == nil || e != api.OK {
		t.Fatalf("P9.1: Open(%q, %d) = %v, %d", name, size, r, e)
	}
	return r
}

// opened answers a reader of a file that has these bytes: five calls, four of twenty in memory.
func opened(t *testing.T, size int, bytes string) bench {
	t.Helper()
	x := bench{d: disk(t, bytes), b: budget.New(20)}
	x.r = open(t, x.d, x.b, "in", size)
	return x
}

// want fails the test, if a call answers another error.
func want(t *testing.T, what string, got, wanted api.Errno) {
	t.Helper()
	if got != wanted {
		t.Errorf("%s: error %d, want %d", what, got, wanted)
	}
}

// opensNot fails the test, if a file is opened without that error, with other calls, or what is in memory is other than it was.
func opensNot(t *testing.T, what string, d *fs.Disk, b *budget.Budget, name string, size int, wanted api.Errno, calls int) {
	t.Helper()
	before, now := d.Calls(), b.Now()
	if r, e := Open(d, b, name, size); r != nil || e != wanted {
		t.Errorf("P9.1: %s: Open(%q, %d) = %v, %d, want none, %d", what, name, size, r, e, wanted)
	}
	if d.Calls()-before != calls || b.Now() != now {
		t.Errorf("P9.1: %s: calls %d, in memory %d, want %d, %d", what, d.Calls()-before, b.Now(), calls, now)
	}
}

// hands fails the test, if these records are not handed out.
func hands(t *testing.T, promise string, r *Reader, l []string) {
	t.Helper()
	for i, record := range l {
		if got, ok, e := r.Next(); got != record || !ok || e != api.OK {
			t.Fatalf("%s: record %d is %x, %v, %d, want %x", promise, i, got, ok, e, record)
		}
	}
}

// stops fails the test, if Next has a record, or another error.
func stops(t *testing.T, promise string, r *Reader, wanted api.Errno) {
	t.Helper()
	if got, ok, e := r.Next(); got != "" || ok || e != wanted {
		t.Errorf("%s: Next = %x, %v, %d, want none, %d", promise, got, ok, e, wanted)
	}
}

// informs fails the test, if the end of these records is not told.
func informs(t *testing.T, promise string, r *Reader, l []string) {
	t.Helper()
	wanted := api.Info{Count: len(l), Sum: crc32.ChecksumIEEE([]byte(strings.Join(l, "")))}
	if x, ok := r.Info(); x != wanted || !ok {
		t.Errorf("%s: Info = %v, %v, want %v", promise, x, ok, wanted)
	}
}

// informsNot fails the test, if an end is told.
func informsNot(t *testing.T, promise string, r *Reader) {
	t.Helper()
	if x, ok := r.Info(); x != (api.Info{}) || ok {
		t.Errorf("%s: Info = %v, %v, want none", promise, x, ok)
	}
}

// tells fails the test, if the reader's count, the disk's calls, or what is in memory are others.
func (x bench) tells(t *testing.T, promise string, count, calls, now int) {
	t.Helper()
	if x.r.Count() != count || x.d.Calls() != calls || x.b.Now() != now {
		t.Errorf("%s: count %d, calls %d, in memory %d, want %d, %d, %d", promise, x.r.Count(), x.d.Calls(), x.b.Now(), count, calls, now)
	}
}

// ended fails the test, if the reader does anything any more, or answers another error.
func (x bench) ended(t *testing.T, wanted api.Errno) {
	t.Helper()
	count, calls := x.r.Count(), x.d.Calls()
	end, told := x.r.Info()
	x.b.Take(8)
	now := x.b.Now()
	for range 3 {
		stops(t, "P9.2", x.r, wanted)
		x.r.Close()
		x.tells(t, "P9.2", count, calls, now)
		if e, ok := x.r.Info(); e != end || ok != told {
			t.Errorf("P9.2: Info = %v, %v, want %v, %v", e, ok, end, told)
		}
	}
	x.b.Give(8)
}

func head(size int) string {
	s, _ := recfile.PutHead(size)
	return s
}

func file(size int, l []string) string {
	s, _ := recfile.Lay(size, l)
	return s
}

func block(size int, l []string) string {
	s, _ := frame.Put(size, l)
	return s
}

func end(l []string) string {
	s, _ := frame.PutEnd(recfile.Sum(l))
	return s
}

// body answers a file of records ahead of its end.
func body(size int, l []string) string {
	s := file(size, l)
	return s[:len(s)-frame.End]
}

// rolled answers bytes that look like no others, always the same ones of a seed.
func rolled(seed uint32, length int) string {
	all := make([]byte, length)
	for i := range all {
		seed = seed*1664525 + 1013904223
		all[i] = byte(seed >> 24)
	}
	return string(all)
}

// records answers so many records of a size, of which no neighbouring 256 are like one another.
func records(size, n int) []string {
	var l []string
	for i := range n {
		l = append(l, string([]byte{byte(37*i + size)})+rolled(uint32(1024*size+i), size-1))
	}
	return l
}

// loose answers a text that stands over bytes, which may be changed.
func loose(s string) (string, []byte) {
	given := []byte(s)
	return unsafe.String(&given[0], len(given)), given
}

// turned answers bytes of which those bits, from the bit at on, are turned.
func turned(s string, at int, bits uint32) string {
	all := []byte(s)
	for i := range 32 {
		if bits>>i&1 == 1 && at+i < 8*len(all) {
			all[(at+i)/8] ^= 1 << ((at + i) % 8)
		}
	}
	return string(all)
}

// noSizes are numbers that are no record's size.
func noSizes() []int {
	return []int{math.MinInt, math.MinInt + 1, -256, -64, -4, -1, 0, 65, 66, 128, 255, 256, 257, 320, 1 << 32, 1<<32 + 1, 1 << 62, math.MaxInt - 1, math.MaxInt}
}

// TestExample: P9.1 to P9.3, the chapter's.
func TestExample(t *testing.T) {
	x := opened(t, 1, file(1, []string{"a", "b"}))
	hands(t, "P9.2", x.r, []string{"a", "b"})
	stops(t, "P9.2", x.r, api.OK)
	informs(t, "P9.2", x.r, []string{"a", "b"})
	x.tells(t, "P9.2", 2, 7, 0)
}

// TestBytes: P9.3, a file of one record, byte by byte.
func TestBytes(t *testing.T) {
	x := opened(t, 1, "CHAIN1\x01\x3b\xc9\x55\x43"+"\x01a\x70\x72\x77\x62"+"\x00\x00\x00\x00\x00\x00\x00\x00\x01\xe8\xb7\xbe\x43\x6c\x7d\x5d\x74")
	hands(t, "P9.3", x.r, []string{"a"})
	stops(t, "P9.3", x.r, api.OK)
	if e, ok := x.r.Info(); e != (api.Info{Count: 1, Sum: 0xe8b7be43}) || !ok {
		t.Errorf("P9.3: Info = %v, %v", e, ok)
	}
}

// TestOpen: P9.1, a reader behind the head of each size, and four records of the budget.
func TestOpen(t *testing.T) {
	for size := 1; size <= 64; size++ {
		x, l := opened(t, size, file(size, records(size, 3))), records(size, 3)
		x.tells(t, "P9.1", 0, 5, 4)
		informsNot(t, "P9.1", x.r)
		hands(t, "P9.1", x.r, l)
	}
}

// TestOpenBounds: P9.1, what just suffices: four that are left, and a head that is all of the file.
func TestOpenBounds(t *testing.T) {
	b := budget.New(11)
	b.Take(7)
	name := strings.Repeat("a", 24)
	x := bench{d: disk(t, ""), b: b}
	add(t, x.d, name, head(64))
	x.r = open(t, x.d, b, name, 64)
	x.tells(t, "P9.1", 0, 8, 11)
	stops(t, "P9.2", x.r, api.ErrCorrupt)
	x.tells(t, "P9.2", 0, 9, 7)
	x.ended(t, api.ErrState)
}

// TestOpenNoSize: P9.1, what is no size is told first, and nothing is done.
func TestOpenNoSize(t *testing.T) {
	for _, size := range noSizes() {
		d, b := disk(t, file(1, nil)), budget.New(20)
		for _, name := range []string{"in", "IN", "none"} {
			opensNot(t, "no size", d, b, name, size, api.ErrArg, 0)
			opensNot(t, "no size", nil, b, name, size, api.ErrArg, 0)
			for _, other := range []*budget.Budget{budget.New(3), nil, {}} {
				opensNot(t, "no size", d, other, name, size, api.ErrArg, 0)
			}
		}
		if b.High() != 0 {
			t.Errorf("P9.1: Open of size %d: at most %d in memory", size, b.High())
		}
	}
}

// TestOpenNoBudget: P9.1, the error of taking four is told ahead of the disk's, and the disk is not asked.
func TestOpenNoBudget(t *testing.T) {
	for _, c := range []struct {
		b    *budget.Budget
		take int
		want api.Errno
	}{
		{nil, 0, api.ErrArg},
		{&budget.Budget{}, 0, api.ErrArg},
		{budget.New(0), 0, api.ErrBudget},
		{budget.New(3), 0, api.ErrBudget},
		{budget.New(4), 1, api.ErrBudget},
		{budget.New(1 << 20), 1<<20 - 3, api.ErrBudget},
	} {
		c.b.Take(c.take)
		d := disk(t, file(5, nil))
		for _, name := range []string{"in", "IN", "", "none"} {
			opensNot(t, "no budget", d, c.b, name, 5, c.want, 0)
		}
	}
}

// TestOpenNoFile: P9.1, the errors of the disk's two calls; the four are given back.
func TestOpenNoFile(t *testing.T) {
	fallen := disk(t, file(5, nil))
	fallen.Arm(0)
	fallen.List()
	first, second := disk(t, file(5, nil)), disk(t, file(5, nil))
	first.Arm(0)
	second.Arm(1)
	for _, c := range []struct {
		what  string
		d     *fs.Disk
		name  string
		want  api.Errno
		calls int
	}{
		{"no disk", nil, "in", api.ErrArg, 0},
		{"a disk that New did not give", &fs.Disk{}, "in", api.ErrArg, 0},
		{"no name", disk(t, file(5, nil)), "IN", api.ErrArg, 0},
		{"no name", disk(t, file(5, nil)), "", api.ErrArg, 0},
		{"a long name", disk(t, file(5, nil)), strings.Repeat("a", 25), api.ErrArg, 0},
		{"no file", disk(t, file(5, nil)), "out", api.ErrNone, 1},
		{"a fallen machine", fallen, "in", api.ErrDown, 1},
		{"a fall at Size", first, "in", api.ErrDown, 1},
		{"a fall at Read", second, "in", api.ErrDown, 2},
	} {
		b := budget.New(9)
		b.Take(5)
		opensNot(t, c.what, c.d, b, c.name, 5, c.want, c.calls)
	}
}

// TestOpenShort: P9.1, fewer bytes than a head has: they are not read.
func TestOpenShort(t *testing.T) {
	for n := range recfile.Head {
		for _, bytes := range []string{head(5)[:n], strings.Repeat("\x00", n)} {
			d, b := disk(t, bytes), budget.New(9)
			b.Take(5)
			opensNot(t, "short", d, b, "in", 5, api.ErrCorrupt, 1)
			d.Arm(1)
			opensNot(t, "short, ahead of a fall", d, b, "in", 5, api.ErrCorrupt, 1)
		}
	}
}

// TestOpenNoHead: P9.1, bytes that are not the head of the size.
func TestOpenNoHead(t *testing.T) {
	rest := file(5, records(5, 2))[recfile.Head:]
	var heads []string
	for size := 1; size <= 64; size++ {
		if size != 5 {
			heads = append(heads, head(size))
		}
	}
	for at := range 8 * recfile.Head {
		heads = append(heads, turned(head(5), at, 1), turned(head(5), at, 0x80000001), turned(head(5), at, 0xffffffff))
	}
	heads = append(heads, strings.Repeat("\x00", 11), crc.Close("CHAIN1\x00"), crc.Close("CHAIN1\x41"), crc.Close("CHAIN2\x05"), crc.Close("chain1\x05"), end(nil)[:11], "x"+head(5)[:10])
	for i, h := range heads {
		b := budget.New(9)
		b.Take(5)
		for _, bytes := range []string{h, h + rest} {
			opensNot(t, "head "+strconv.Itoa(i), disk(t, bytes), b, "in", 5, api.ErrCorrupt, 2)
		}
	}
}

// TestOpenOwnName: the name that was handed in is not kept.
func TestOpenOwnName(t *testing.T) {
	l := records(2, 5)
	d, b := disk(t, file(2, l)), budget.New(4)
	name, given := loose("in")
	r := open(t, d, b, name, 2)
	copy(given, "xy")
	hands(t, "P9.2", r, l)
	stops(t, "P9.2", r, api.OK)
}

// TestNext: P9.2, records in order; one call of the disk a block, and one for the end, whatever is ahead of it.
func TestNext(t *testing.T) {
	for _, size := range []int{1, 2, 3, 4, 7, 63, 64} {
		for n := range 14 {
			l := records(size, n)
			x := opened(t, size, file(size, l))
			for i := range l {
				hands(t, "P9.2", x.r, l[i:i+1])
				x.tells(t, "P9.2", i+1, 5+i/4+1, 4)
				informsNot(t, "P9.2", x.r)
			}
			stops(t, "P9.2", x.r, api.OK)
			x.tells(t, "P9.2", n, 5+(n+3)/4+1, 0)
			informs(t, "P9.2", x.r, l)
			x.ended(t, api.OK)
			informs(t, "P9.2", x.r, l)
		}
	}
}

// TestNextReady: P9.2, records of a block that was read are handed out without the disk.
func TestNextReady(t *testing.T) {
	for _, s := range spoils() {
		l := records(6, 11)
		x := opened(t, 6, file(6, l))
		hands(t, "P9.2", x.r, l[:5])
		s.do(t, x.d)
		calls := x.d.Calls()
		hands(t, "P9.2", x.r, l[5:8])
		x.tells(t, "P9.2", 8, calls, 4)
		stops(t, "P9.2", x.r, s.want)
		x.tells(t, "P9.2", 8, calls+1, 0)
	}
}

// TestNextLength: P9.2, as many bytes are read as a full block or an end has, or as are left: no fewer, and no more.
func TestNextLength(t *testing.T) {
	for _, size := range []int{1, 2, 3, 4, 5, 64} {
		l := records(size, 8)
		at, most := recfile.Head, max(4*size+5, 17)
		for _, c := range []struct{ n, from, length int }{
			{0, at, most},
			{4, at + 4*size + 5, most},
			{8, at + 2*(4*size+5), 17},
		} {
			read := min(c.from+c.length, len(file(size, l)))
			x := opened(t, size, file(size, l))
			hands(t, "P9.2", x.r, l[:c.n])
			cut(t, x.d, read-1)
			stops(t, "P9.2", x.r, api.ErrRange)
			x.ended(t, api.ErrState)
			if c.n == 8 {
				continue
			}
			x = opened(t, size, file(size, l))
			hands(t, "P9.2", x.r, l[:c.n])
			cut(t, x.d, read)
			hands(t, "P9.2", x.r, l[c.n:c.n+4])
		}
	}
}

// TestNextLeft: P9.2, blocks and ends of which fewer bytes are left than are asked for.
func TestNextLeft(t *testing.T) {
	for size := 1; size <= 64; size++ {
		for n := range 5 {
			l := records(size, n)
			x := opened(t, size, body(size, l))
			hands(t, "P9.2", x.r, l)
			stops(t, "P9.2", x.r, api.ErrCorrupt)
			x.tells(t, "P9.2", n, 5+(n+3)/4+1, 0)
			informsNot(t, "P9.2", x.r)
			x.ended(t, api.ErrState)
		}
	}
}

// spoil is what lets the next call of a disk fail.
type spoil struct {
	do   func(*testing.T, *fs.Disk)
	want api.Errno
}

func spoils() []spoil {
	return []spoil{
		{func(t *testing.T, d *fs.Disk) { d.Arm(0) }, api.ErrDown},
		{func(t *testing.T, d *fs.Disk) { d.Remove("in") }, api.ErrNone},
		{func(t *testing.T, d *fs.Disk) { d.Rename("in", "other") }, api.ErrNone},
		{func(t *testing.T, d *fs.Disk) { cut(t, d, 11) }, api.ErrRange},
		{func(t *testing.T, d *fs.Disk) { cut(t, d, 0) }, api.ErrRange},
	}
}

// TestNextFails: P9.2, an error of the disk: the four are given back, and it is over.
func TestNextFails(t *testing.T) {
	for _, s := range spoils() {
		for _, size := range []int{1, 64} {
			for _, n := range []int{0, 4, 8, 10} { // ahead of each call
				l := records(size, 10)
				x := opened(t, size, file(size, l))
				hands(t, "P9.2", x.r, l[:n])
				s.do(t, x.d)
				calls := x.d.Calls()
				stops(t, "P9.2", x.r, s.want)
				x.tells(t, "P9.2", n, calls+1, 0)
				informsNot(t, "P9.2", x.r)
				x.d.Rise(nil)
				x.ended(t, api.ErrState)
			}
		}
	}
}

// TestNextShortBlock: P9.2, behind a block of fewer than four no other one stands.
func TestNextShortBlock(t *testing.T) {
	for _, size := range []int{1, 3, 10, 64} {
		for short := 1; short < 4; short++ {
			for full := range 3 {
				for more := 1; more <= 4; more++ {
					n := 4*full + short
					l := records(size, n+more)
					x := opened(t, size, body(size, l[:n])+block(size, l[n:])+end(l))
					hands(t, "P9.2", x.r, l[:n])
					calls := x.d.Calls()
					stops(t, "P9.2", x.r, api.ErrCorrupt)
					x.tells(t, "P9.2", n, calls+1, 0)
					informsNot(t, "P9.2", x.r)
					x.ended(t, api.ErrState)
				}
			}
		}
	}
}

// TestNextNoEnd: P9.2, what stands where the end has to, and is not that of the records.
func TestNextNoEnd(t *testing.T) {
	for _, size := range []int{1, 2, 3, 4, 64} {
		for n := range 10 {
			l := records(size, n)
			other := slices.Clone(l)
			if n > 0 {
				other[n/2] = turned(other[n/2], 0, 1)
			}
			sum := recfile.Sum(l).Sum
			count, _ := frame.PutEnd(api.Info{Count: n + 1, Sum: sum})
			full, _ := frame.PutEnd(api.Info{Count: 1 << 62, Sum: sum})
			odd, _ := frame.PutEnd(api.Info{Count: n, Sum: sum ^ 1<<31})
			ends := []string{count, full, odd, end(append(slices.Clone(l), rolled(1, size))), strings.Repeat("\x00", 17),
				head(size), crc.Close(""), crc.Close("\x00"), crc.Close("\x05" + rolled(2, 5*size)), crc.Close("\x00" + rolled(3, 12)), rolled(4, 1000)}
			if n > 0 {
				ends = append(ends, end(other), end(l[:n-1]), end(nil))
			}
			for _, last := range ends {
				x := opened(t, size, body(size, l)+last)
				hands(t, "P9.2", x.r, l)
				calls := x.d.Calls()
				stops(t, "P9.2", x.r, api.ErrCorrupt)
				x.tells(t, "P9.2", n, calls+1, 0)
				informsNot(t, "P9.2", x.r)
				x.ended(t, api.ErrState)
			}
		}
	}
}

// TestNextBehindEnd: P9.2, an end behind which the file goes on is none, also where no more was read.
func TestNextBehindEnd(t *testing.T) {
	for size := 1; size <= 64; size++ {
		for n := range 6 {
			l := records(size, n)
			for _, behind := range []string{"\x00", rolled(5, 3), end(l), block(size, records(size, 4)), strings.Repeat("\x00", 300)} {
				x := opened(t, size, file(size, l)+behind)
				hands(t, "P9.2", x.r, l)
				stops(t, "P9.2", x.r, api.ErrCorrupt)
				informsNot(t, "P9.2", x.r)
				x.ended(t, api.ErrState)
			}
		}
	}
}

// TestNextOwn: records that were handed out are memory of their own.
func TestNextOwn(t *testing.T) {
	x := opened(t, 8, file(8, slices.Repeat([]string{"likeness"}, 6)))
	seen := map[*byte]bool{}
	for {
		record, ok, _ := x.r.Next()
		if !ok {
			break
		}
		seen[unsafe.StringData(record)] = true
	}
	if len(seen) != 6 {
		t.Errorf("P9.2: six records stand at %d places", len(seen))
	}
}

// TestClose: P9.2, ahead of the end: no more is handed out, the disk is not asked, and the four are given back once.
func TestClose(t *testing.T) {
	for n := range 12 {
		l := records(6, 11)
		x := opened(t, 6, file(6, l))
		hands(t, "P9.2", x.r, l[:n])
		calls := x.d.Calls()
		x.r.Close()
		x.tells(t, "P9.2", n, calls, 0)
		informsNot(t, "P9.2", x.r)
		x.ended(t, api.ErrState)
	}
}

// TestCloseBehindEnd: P9.2, behind the end a Close changes nothing: Next has no error.
func TestCloseBehindEnd(t *testing.T) {
	for n := range 6 {
		l := records(6, n)
		x := opened(t, 6, file(6, l))
		hands(t, "P9.2", x.r, l)
		stops(t, "P9.2", x.r, api.OK)
		x.b.Take(4)
		x.r.Close()
		x.tells(t, "P9.2", n, 5+(n+3)/4+1, 4)
		stops(t, "P9.2", x.r, api.OK)
		informs(t, "P9.2", x.r, l)
	}
}

// TestCloseDown: P9.2, a reader over a disk that fell is open till a call tells.
func TestCloseDown(t *testing.T) {
	l := records(6, 9)
	x := opened(t, 6, file(6, l))
	hands(t, "P9.2", x.r, l[:2])
	x.d.Arm(0)
	x.d.List()
	hands(t, "P9.2", x.r, l[2:4])
	x.tells(t, "P9.2", 4, 7, 4)
	x.r.Close()
	x.tells(t, "P9.2", 4, 7, 0)
	x.ended(t, api.ErrState)
}

// TestNoReader: P9.2, nil, and one that Open did not give.
func TestNoReader(t *testing.T) {
	var empty Reader
	for _, r := range []*Reader{nil, {}, &empty, new(Reader)} {
		for range 2 {
			stops(t, "P9.2", r, api.ErrState)
			r.Close()
			informsNot(t, "P9.2", r)
			if r.Count() != 0 {
				t.Errorf("P9.2: count %d", r.Count())
			}
		}
	}
}

// walk answers what is handed out of a file, its end, and the error that ends it.
func walk(t *testing.T, size int, bytes string) ([]string, api.Info, api.Errno) {
	t.Helper()
	d, b := disk(t, bytes), budget.New(7)
	b.Take(3)
	var l []string
	r, e := Open(d, b, "in", size)
	for ok := e == api.OK; ok; {
		var record string
		record, ok, e = r.Next()
		if ok {
			l = append(l, record)
		}
	}
	if b.Now() != 3 || r.Count() != len(l) {
		t.Errorf("P9.2: in memory %d, count %d, want 3, %d", b.Now(), r.Count(), len(l))
	}
	x, told := r.Info()
	if told != (e == api.OK) {
		t.Errorf("P9.2: Info = %v, %v beside %d", x, told, e)
	}
	return l, x, e
}

// TestFile: P9.3, files of every size, with none to many blocks.
func TestFile(t *testing.T) {
	for size := 1; size <= 64; size++ {
		lists := [][]string{nil, slices.Repeat([]string{strings.Repeat("\x00", size)}, 5), slices.Repeat([]string{strings.Repeat("\xff", size)}, 8)}
		for _, n := range []int{1, 2, 3, 4, 5, 8, 11, 12, 99} {
			lists = append(lists, records(size, n))
		}
		for _, l := range lists {
			got, x, e := walk(t, size, file(size, l))
			if e != api.OK || !slices.Equal(got, l) || x != recfile.Sum(l) {
				t.Errorf("P9.3: %d records of %d bytes come back as %d, %v, %d", len(l), size, len(got), x, e)
			}
		}
	}
}

// TestFileLong: P9.3, many records, of which a budget of four is enough, come back from a writer.
func TestFileLong(t *testing.T) {
	d, b, l := disk(t, ""), budget.New(4), records(3, 100003)
	w, e := writer.Create(d, b, "long", 3)
	want(t, "P9.3: writer", e, api.OK)
	for _, record := range l {
		w.Put(record)
	}
	w.Close()
	calls := d.Calls()
	r := open(t, d, b, "long", 3)
	hands(t, "P9.3", r, l)
	stops(t, "P9.3", r, api.OK)
	informs(t, "P9.3", r, l)
	if b.Now() != 0 || b.High() != 4 || d.Calls()-calls != 2+25001+1 {
		t.Errorf("P9.3: in memory %d, at most %d, calls %d", b.Now(), b.High(), d.Calls()-calls)
	}
}

// corrupt fails the test, if bytes that are no file of records are taken for one; what was handed out ahead stood in them.
func corrupt(t *testing.T, what string, size int, bytes string, l []string) {
	t.Helper()
	if _, _, e := recfile.Parse(size, bytes); e != api.ErrCorrupt {
		t.Fatalf("%s: the bytes are a file", what)
	}
	got, _, e := walk(t, size, bytes)
	if e != api.ErrCorrupt {
		t.Errorf("P9.3: %s: error %d, want %d", what, e, api.ErrCorrupt)
	}
	if l != nil && (len(got) > len(l) || !slices.Equal(got, l[:len(got)])) {
		t.Errorf("P9.3: %s: other records are handed out", what)
	}
}

// TestCut: P9.3, a file that ends ahead of its end; the records of its whole blocks are handed out.
func TestCut(t *testing.T) {
	for _, size := range []int{1, 2, 3, 4, 9, 64} {
		for _, n := range []int{0, 1, 3, 4, 6, 8, 13} {
			l := records(size, n)
			s := file(size, l)
			for length := range len(s) {
				corrupt(t, "cut", size, s[:length], l)
				got, _, _ := walk(t, size, s[:length])
				whole := 0
				for whole < n && len(body(size, l[:min(whole+4, n)])) <= length {
					whole = min(whole+4, n)
				}
				if len(got) != whole {
					t.Errorf("P9.3: of %d bytes %d records are handed out, want %d", length, len(got), whole)
				}
			}
		}
	}
}

// TestTurned: P9.3, a file of which some bits, all within 32 neighbouring ones, are turned.
func TestTurned(t *testing.T) {
	for _, size := range []int{1, 3, 4, 11, 64} {
		for _, n := range []int{0, 1, 4, 7} {
			l := records(size, n)
			s := file(size, l)
			for at := range 8 * len(s) {
				for _, bits := range []uint32{1, 3, 0xff, 0x80000001, 0xffffffff, 1 | uint32(at)*2654435761} {
					corrupt(t, "turned at "+strconv.Itoa(at), size, turned(s, at, bits), nil)
				}
			}
		}
	}
}

// TestMixed: P9.3, files of which pieces are missing, twice there, or from elsewhere, and those of another size.
func TestMixed(t *testing.T) {
	for _, size := range []int{1, 2, 3, 8, 64} {
		l := records(size, 12)
		h, a, b, c, last := head(size), block(size, l[:4]), block(size, l[4:8]), block(size, l[8:]), end(l)
		for i, s := range []string{"", h, last, h + last, a + b + c + last, h + a + c + last, h + b + a + c + last, h + a + b + b + c + last, h + a + a + b + c + last,
			h + h + a + b + c + last, h + a + b + c, h + a + b + last + c, h + a + b + c + last + last, last + h + a + b + c, h + a + b + last,
			h + block(size, l[:3]) + block(size, l[3:7]) + c + last, h + a + block(size, l[4:6]) + block(size, l[6:8]) + c + last, h + crc.Close("\x00") + a + b + c + last} {
			corrupt(t, "mixed "+strconv.Itoa(i), size, s, nil)
		}
		for other := 1; other <= 64; other++ {
			if other != size {
				corrupt(t, "of size "+strconv.Itoa(size), other, file(size, l), nil)
				corrupt(t, "with a head of another size", other, head(other)+file(size, l)[recfile.Head:], nil)
			}
		}
	}
}

// TestAnyBytes: P9.3, bytes that nobody wrote, bare, and behind a head.
func TestAnyBytes(t *testing.T) {
	for n := range 200 {
		for _, size := range []int{1, 4, 64} {
			for _, s := range []string{rolled(uint32(n), n), strings.Repeat("\x00", n), strings.Repeat("\x01", n), strings.Repeat("\xff", n)} {
				corrupt(t, "any bytes", size, s, nil)
				corrupt(t, "any bytes behind a head", size, head(size)+s, nil)
			}
		}
	}
}

// TestSeveral: P9.3, readers over one file, one disk and one budget have nothing of one another.
func TestSeveral(t *testing.T) {
	l := records(9, 40)
	d, b := disk(t, file(9, l)), budget.New(26)
	var all []*Reader
	for range 6 {
		all = append(all, open(t, d, b, "in", 9))
	}
	opensNot(t, "one more", d, b, "in", 9, api.ErrBudget, 0)
	for turn := range 300 {
		for i, r := range all {
			at := r.Count()
			if (turn+i)%(i+2) > 0 || at == len(l) {
				continue
			}
			if i == 2 && at == 17 {
				r.Close()
				continue
			}
			hands(t, "P9.3", r, l[at:at+1])
		}
	}
	for i, r := range all {
		if i == 2 {
			stops(t, "P9.2", r, api.ErrState)
			informsNot(t, "P9.2", r)
			continue
		}
		stops(t, "P9.3", r, api.OK)
		informs(t, "P9.3", r, l)
	}
	if b.Now() != 0 || b.High() != 24 {
		t.Errorf("P9.3: in memory %d, at most %d", b.Now(), b.High())
	}
}

// TestFalls: P9.2, wherever the machine falls, it is told, and the budget is as it was; behind it the file is read anew.
func TestFalls(t *testing.T) {
	for n := range 10 {
		l := records(4, n)
		calls := 2 + (n+3)/4 + 1
		for at := range calls {
			x := bench{d: disk(t, file(4, l)), b: budget.New(9)}
			x.b.Take(5)
			x.d.Arm(at)
			if at < 2 {
				opensNot(t, "a fall", x.d, x.b, "in", 4, api.ErrDown, at+1)
			} else {
				x.r = open(t, x.d, x.b, "in", 4)
				hands(t, "P9.2", x.r, l[:min(4*(at-2), n)])
				stops(t, "P9.2", x.r, api.ErrDown)
				x.tells(t, "P9.2", min(4*(at-2), n), 3+at+1, 5)
				x.ended(t, api.ErrState)
			}
			x.d.Rise(nil)
			x.r = open(t, x.d, x.b, "in", 4)
			hands(t, "P9.3", x.r, l)
			stops(t, "P9.3", x.r, api.OK)
		}
	}
}
