package merge

import (
	"maps"
	"slices"
	"strconv"
	"strings"
	"testing"

	"chainman/api"
	"chainman/budget"
	"chainman/frame"
	"chainman/fs"
	"chainman/recfile"
)

func disk(t *testing.T, room int) *fs.Disk {
	t.Helper()
	d, e := fs.New(room)
	if e != api.OK {
		t.Fatalf("a disk of %d: error %d", room, e)
	}
	return d
}

// lay lets a disk have one file more, all of it kept.
func lay(t *testing.T, d *fs.Disk, name, bytes string) {
	t.Helper()
	for _, e := range []api.Errno{d.Create(name), d.Append(name, bytes), d.Sync(name)} {
		if e != api.OK {
			t.Fatalf("the file %s: error %d", name, e)
		}
	}
}

// with answers a disk of that room that has those files, all of them kept.
func with(t *testing.T, room int, files map[string]string) *fs.Disk {
	t.Helper()
	d := disk(t, room)
	for _, name := range slices.Sorted(maps.Keys(files)) {
		lay(t, d, name, files[name])
	}
	return d
}

// after answers the disk's files and their bytes behind a fall of which nothing stays that waited; the disk stays as it was.
func after(d *fs.Disk) map[string]string {
	c := d.Clone()
	c.Rise(nil)
	return now(c)
}

// now answers the disk's files and their bytes, with those that wait.
func now(d *fs.Disk) map[string]string {
	names, _ := d.List()
	all := map[string]string{}
	for _, name := range names {
		n, _ := d.Size(name)
		all[name], _ = d.Read(name, 0, n)
	}
	return all
}

// same fails the test, if there are other files than wanted, or other bytes of them.
func same(t *testing.T, promise string, got, wanted map[string]string) {
	t.Helper()
	for name, bytes := range wanted {
		if s, ok := got[name]; !ok || s != bytes {
			t.Errorf("%s: %s has %x, %v, want %x", promise, name, s, ok, bytes)
		}
	}
	if len(got) != len(wanted) {
		t.Errorf("%s: %d files, want %d", promise, len(got), len(wanted))
	}
}

func file(size int, l []string) string {
	s, _ := recfile.Lay(size, l)
	return s
}

// letters are records of one octet.
func letters(s string) []string { return strings.Split(s, "") }

// laid answers the names of files, in.0 and so on, and what they have.
func laid(size int, lists [][]string) ([]string, map[string]string) {
	var ins []string
	files := map[string]string{}
	for i, l := range lists {
		name := "in." + strconv.Itoa(i)
		ins = append(ins, name)
		files[name] = file(size, l)
	}
	return ins, files
}

// plus answers the files with one more.
func plus(files map[string]string, name, bytes string) map[string]string {
	all := maps.Clone(files)
	all[name] = bytes
	return all
}

// dice gives numbers that look like no others, always the same ones of a seed.
type dice uint32

func (x *dice) below(n int) int {
	*x = *x*1664525 + 1013904223
	return int(uint32(*x)>>8) % n
}

// rising answers so many records of a size, of a few octets, so that some are alike, in order.
func rising(x *dice, size, n, octets int) []string {
	var l []string
	for range n {
		record := make([]byte, size)
		for i := range record {
			record[i] = byte(x.below(octets) * 255 / max(octets-1, 1))
		}
		l = append(l, string(record))
	}
	slices.Sort(l)
	return l
}

// some answers so many files' records, each at most so many.
func some(x *dice, size, files, n, octets int) [][]string {
	var lists [][]string
	for range files {
		lists = append(lists, rising(x, size, x.below(n+1), octets))
	}
	return lists
}

// merged answers the merge, as the document's words tell of it.
func merged(lists [][]string, unique bool) []string {
	var all []string
	for _, l := range lists {
		for _, record := range l {
			if !unique || !slices.Contains(all, record) {
				all = append(all, record)
			}
		}
	}
	slices.Sort(all)
	return all
}

// merges fails the test, if Merge does anything but write the merge.
func merges(t *testing.T, size int, lists [][]string, unique bool) {
	t.Helper()
	ins, files := laid(size, lists)
	d, b := with(t, api.MaxDisk, files), budget.New(3+4*len(ins)+4)
	b.Take(3)
	wanted := merged(lists, unique)
	x, e := Merge(d, b, ins, "out", size, unique)
	if x != recfile.Sum(wanted) || e != api.OK {
		t.Fatalf("P17.1: Merge of %d files = %v, %d, want %v, %d", len(lists), x, e, recfile.Sum(wanted), api.OK)
	}
	same(t, "P17.1", after(d), plus(files, "out", file(size, wanted)))
	if b.Now() != 3 || b.High() != 3+4*len(ins)+4 {
		t.Errorf("P17.2: of %d files in memory %d, at most %d, want 3, %d", len(ins), b.Now(), b.High(), 3+4*len(ins)+4)
	}
}

// fails fails the test, if Merge answers other than that error, or keeps any of the budget.
func fails(t *testing.T, what string, d *fs.Disk, b *budget.Budget, ins []string, out string, size int, wanted api.Errno) {
	t.Helper()
	for _, unique := range []bool{false, true} {
		before, c := b.Now(), d.Clone()
		if c == nil { // a disk that New did not give has no clone
			c = d
		}
		if x, e := Merge(c, b, ins, out, size, unique); x != (api.Info{}) || e != wanted {
			t.Errorf("P17.1: %s: Merge = %v, %d, want none, %d", what, x, e, wanted)
		}
		if b.Now() != before {
			t.Errorf("P17.1: %s: in memory %d, want %d", what, b.Now(), before)
		}
	}
}

// TestExample: P17.1, the chapter's, byte by byte.
func TestExample(t *testing.T) {
	lists := [][]string{letters("ac"), letters("bc")}
	for _, c := range []struct {
		unique bool
		wanted string
	}{{true, "abc"}, {false, "abcc"}} {
		ins, files := laid(1, lists)
		d, b := with(t, 1000, files), budget.New(12)
		x, e := Merge(d, b, ins, "out", 1, c.unique)
		if x != recfile.Sum(letters(c.wanted)) || e != api.OK {
			t.Errorf("P17.1: Merge = %v, %d, want that of %s, %d", x, e, c.wanted, api.OK)
		}
		same(t, "P17.1", after(d), plus(files, "out", file(1, letters(c.wanted))))
		if b.Now() != 0 || b.High() != 12 {
			t.Errorf("P17.2: in memory %d, at most %d, want 0, 12", b.Now(), b.High())
		}
	}
}

// TestMergeSmall: P17.1, P17.2, few files of few records, also of none.
func TestMergeSmall(t *testing.T) {
	x := dice(17)
	for files := range 6 {
		for n := range 11 {
			for _, octets := range []int{1, 2, 4, 256} {
				merges(t, 1, some(&x, 1, files, n, octets), false)
				merges(t, 1, some(&x, 1, files, n, octets), true)
				merges(t, 3, some(&x, 3, files, n, octets), n%2 == 0)
			}
		}
	}
}

// TestMergeOne: P17.1, all of one file, of every count about those of blocks.
func TestMergeOne(t *testing.T) {
	x := dice(1)
	for n := range 14 {
		merges(t, 2, [][]string{rising(&x, 2, n, 256)}, false)
		merges(t, 1, [][]string{rising(&x, 1, n, 3)}, true)
		merges(t, 1, [][]string{nil, rising(&x, 1, n, 3), nil}, true)
	}
}

// TestMergeMany: P17.1, P17.2, as many files as may be, and records of any size.
func TestMergeMany(t *testing.T) {
	x := dice(71)
	for size := 1; size <= 64; size++ {
		merges(t, size, some(&x, size, x.below(65), 20, 2+x.below(255)), size%2 == 0)
	}
	merges(t, 2, some(&x, 2, 64, 90, 9), true)
	merges(t, 2, some(&x, 2, 64, 90, 9), false)
	merges(t, 1, make([][]string, 64), false)
}

// TestMergeOrder: P17.1, records are in the order of their octets, each from 0 to 255, whichever file they are in.
func TestMergeOrder(t *testing.T) {
	lists := make([][]string, 3)
	for i := range 256 {
		to := i * i % 3
		lists[to] = append(lists[to], string([]byte{byte(i), byte(255 - i)}))
	}
	merges(t, 2, lists, true)
	merges(t, 2, lists, false)
	merges(t, 1, [][]string{{"\x00", "\x00"}, {"\x00", "\xff"}}, true)
	merges(t, 1, [][]string{{"\x00", "\x00"}, {"\x00", "\xff"}}, false)
}

// TestMergeAlike: P17.1, like ones that are in one file, or in several, or at its end, are one, or all of them.
func TestMergeAlike(t *testing.T) {
	for _, lists := range [][][]string{
		{letters("aaaaaaaaa")},
		{letters("aaaaa"), letters("aaaaaa"), letters("a")},
		{letters("aabbb"), letters("bbbcc"), nil, letters("ccc")},
		{letters("z"), letters("az"), letters("zz")},
		{letters("abcdefgh"), letters("abcdefgh"), letters("abcdefgh")},
	} {
		merges(t, 1, lists, true)
		merges(t, 1, lists, false)
	}
}

// TestMergeNone: P17.1, of no files, and of files of no records, there is a file of none.
func TestMergeNone(t *testing.T) {
	for _, lists := range [][][]string{nil, {nil}, {nil, nil, nil}} {
		merges(t, 7, lists, true)
		merges(t, 7, lists, false)
	}
}

// TestMergeTwice: P17.1, a file that is named twice is read twice; ins is not changed.
func TestMergeTwice(t *testing.T) {
	l := letters("abbcdefg")
	files := map[string]string{"a": file(1, l)}
	d := with(t, 1000, files)
	ins := []string{"a", "a", "a"}
	wanted := merged([][]string{l, l, l}, false)
	if x, e := Merge(d, budget.New(16), ins, "out", 1, false); x != recfile.Sum(wanted) || e != api.OK {
		t.Errorf("P17.1: Merge = %v, %d, want %v, %d", x, e, recfile.Sum(wanted), api.OK)
	}
	same(t, "P17.1", after(d), plus(files, "out", file(1, wanted)))
	if !slices.Equal(ins, []string{"a", "a", "a"}) {
		t.Errorf("P17.1: ins is %q", ins)
	}
}

// TestMergeTooMany: P17.1, more than 64 files are told first, and nothing is done.
func TestMergeTooMany(t *testing.T) {
	for _, n := range []int{65, 66, 128, 1000} {
		files := map[string]string{"a": file(1, letters("a")), "b": ""}
		d, b := with(t, 1000, files), budget.New(20)
		ins := slices.Repeat([]string{"a"}, n)
		for _, out := range []string{"out", "a", "B"} {
			for _, size := range []int{1, 0, 65} {
				x, e := Merge(d, b, ins, out, size, true)
				if x != (api.Info{}) || e != api.ErrArg {
					t.Errorf("P17.1: Merge of %d files = %v, %d, want none, %d", n, x, e, api.ErrArg)
				}
			}
		}
		fails(t, "too many, no room", d, budget.New(0), ins, "out", 1, api.ErrArg)
		if d.Calls() != 6 || b.High() != 0 {
			t.Errorf("P17.1: %d files: %d calls, at most %d, want 6, 0", n, d.Calls(), b.High())
		}
		same(t, "P17.1", now(d), files)
	}
}

// TestMergeOutFirst: P17.1, the file out is created first, and its errors come ahead of those of the files.
func TestMergeOutFirst(t *testing.T) {
	files := map[string]string{"a": file(1, letters("a")), "b": ""}
	for _, c := range []struct {
		out    string
		size   int
		wanted api.Errno
	}{
		{"a", 1, api.ErrThere}, {"b", 1, api.ErrThere},
		{"", 1, api.ErrArg}, {"OUT", 1, api.ErrArg}, {strings.Repeat("a", 25), 1, api.ErrArg},
		{"out", 0, api.ErrArg}, {"out", -1, api.ErrArg}, {"out", 65, api.ErrArg},
	} {
		for _, ins := range [][]string{nil, {"a"}, {"none"}, {"b", "none"}} {
			d, b := with(t, 1000, files), budget.New(20)
			x, e := Merge(d, b, ins, c.out, c.size, true)
			if x != (api.Info{}) || e != c.wanted || b.Now() != 0 {
				t.Errorf("P17.1: Merge into %q, size %d = %v, %d, want none, %d", c.out, c.size, x, e, c.wanted)
			}
			same(t, "P17.1", now(d), files)
		}
	}
	d := with(t, 1000, files)
	if _, e := Merge(d, budget.New(20), []string{"none"}, "out", 9, true); e != api.ErrNone {
		t.Errorf("P17.1: Merge of no file: error %d, want %d", e, api.ErrNone)
	}
	head, _ := recfile.PutHead(9)
	same(t, "P17.1", now(d), plus(files, "out", head))
}

// TestMergeNotOpened: P17.1, the files are opened in order, and the first error is told.
func TestMergeNotOpened(t *testing.T) {
	files := map[string]string{
		"a": file(2, []string{"ab", "cd"}), "one": file(1, letters("a")), "cut": file(2, nil)[:10], "empty": "",
	}
	for _, c := range []struct {
		ins    []string
		size   int
		wanted api.Errno
	}{
		{[]string{"none"}, 2, api.ErrNone},
		{[]string{"a", "none", "A"}, 2, api.ErrNone},
		{[]string{"a", "A", "none"}, 2, api.ErrArg},
		{[]string{"a", "", "none"}, 2, api.ErrArg},
		{[]string{"a", "one", "none"}, 2, api.ErrCorrupt},
		{[]string{"a", "none", "one"}, 2, api.ErrNone},
		{[]string{"a", "a", "cut", "A"}, 2, api.ErrCorrupt},
		{[]string{"empty", "A"}, 2, api.ErrCorrupt},
		{[]string{"a"}, 1, api.ErrCorrupt},
		{[]string{"a"}, 3, api.ErrCorrupt},
		{[]string{"out"}, 2, api.ErrCorrupt}, // it has a head, and neither blocks nor an end
	} {
		d := with(t, 1000, files)
		fails(t, strings.Join(c.ins, " "), d, budget.New(4*len(c.ins)+4), c.ins, "out", c.size, c.wanted)
	}
}

// TestMergeOpenedAhead: P17.1, all are opened ahead of the first record that is read of one.
func TestMergeOpenedAhead(t *testing.T) {
	whole := file(2, []string{"ab", "cd"})
	head, _ := recfile.PutHead(2)
	files := map[string]string{"a": whole, "bad": head + "what is no block and no end", "one": file(1, nil), "down": file(2, []string{"b", "a"})}
	d := with(t, 1000, files)
	fails(t, "no block", d, budget.New(20), []string{"bad", "a"}, "out", 2, api.ErrCorrupt)
	fails(t, "no block, and none", d, budget.New(20), []string{"bad", "none"}, "out", 2, api.ErrNone)
	fails(t, "no block, and no name", d, budget.New(20), []string{"a", "bad", "NONE"}, "out", 2, api.ErrArg)
	fails(t, "no block, and no room", d, budget.New(11), []string{"bad", "a"}, "out", 2, api.ErrBudget)
}

// TestMergeBudget: P17.1, P17.2, four for each file, and four, have to fit, no more; those of the writer come first.
func TestMergeBudget(t *testing.T) {
	x := dice(4)
	for n := range 9 {
		lists := some(&x, 1, n, 9, 5)
		ins, files := laid(1, lists)
		for bound := range 4*n + 4 {
			d := with(t, 5000, files)
			fails(t, "no room for all", d, budget.New(bound), ins, "out", 1, api.ErrBudget)
			b := budget.New(4*n + 4)
			b.Take(4*n + 4 - bound)
			fails(t, "no room for all beside others", d, b, ins, "out", 1, api.ErrBudget)
		}
		merges(t, 1, lists, n%2 == 0)
	}
	d, b := with(t, 1000, map[string]string{"a": file(1, nil)}), budget.New(3)
	if _, e := Merge(d, b, []string{"a"}, "out", 1, true); e != api.ErrBudget || b.High() != 0 || d.Calls() != 3 {
		t.Errorf("P17.1: Merge of a budget of 3: error %d, at most %d, %d calls", e, b.High(), d.Calls())
	}
}

// TestMergeNotMade: no call panics, whatever it is given.
func TestMergeNotMade(t *testing.T) {
	d, b := with(t, 1000, map[string]string{"a": file(1, letters("a"))}), budget.New(20)
	fails(t, "no disk", nil, b, []string{"a"}, "out", 1, api.ErrArg)
	fails(t, "a disk that New did not give", &fs.Disk{}, b, []string{"a"}, "out", 1, api.ErrArg)
	fails(t, "no budget", d, nil, []string{"a"}, "out", 1, api.ErrArg)
	fails(t, "a budget that New did not give", d, &budget.Budget{}, []string{"a"}, "out", 1, api.ErrArg)
	fails(t, "nothing", nil, nil, nil, "", 0, api.ErrArg)
	if e := Clear(nil, []string{"a"}); e != api.ErrArg {
		t.Errorf("P17.1: Clear of no disk: error %d, want %d", e, api.ErrArg)
	}
	if e := Clear(&fs.Disk{}, []string{"a"}); e != api.ErrArg {
		t.Errorf("P17.1: Clear of a disk that New did not give: error %d, want %d", e, api.ErrArg)
	}
	if e := Clear(nil, nil); e != api.OK {
		t.Errorf("P17.1: Clear of no names: error %d, want %d", e, api.OK)
	}
}

// TestMergeDown: P17.1, one record anywhere that is below the one ahead of it in its file.
func TestMergeDown(t *testing.T) {
	rise := letters("bcdeffghijkl")
	for i := range rise {
		for _, low := range []string{"a", "\x00"} {
			l := slices.Insert(slices.Clone(rise), i+1, low)
			for _, lists := range [][][]string{
				{l}, {nil, l}, {letters("aaaa"), l}, {l, letters("zz")}, {letters("acegik"), l, rise}, {l, l},
			} {
				ins, files := laid(1, lists)
				fails(t, "a file does not rise", with(t, 5000, files), budget.New(40), ins, "out", 1, api.ErrOrder)
			}
		}
	}
	for _, l := range [][]string{letters("ba"), letters("aab\x00"), letters("bbba"), letters("abcdc"), letters("\xff\x7f"), letters("\x80\x7f")} {
		ins, files := laid(1, [][]string{l, letters("abc")})
		fails(t, "a file does not rise", with(t, 5000, files), budget.New(40), ins, "out", 1, api.ErrOrder)
	}
	merges(t, 1, [][]string{letters("d"), letters("c"), letters("b"), letters("a")}, false) // each of them rises
}

// TestMergeFirstError: P17.1, of a file that does not rise and one that is broken the error that comes first is told.
func TestMergeFirstError(t *testing.T) {
	down, broken := file(1, letters("abcdefghba")), file(1, letters("abcdefgh"))
	second := recfile.Head + frame.Room(1) // where the second block begins
	files := map[string]string{"down": down, "broken": broken}
	d := with(t, 1000, files)
	d.Turn("broken", 8*second, 1)
	fails(t, "broken first", d, budget.New(40), []string{"down", "broken"}, "out", 1, api.ErrCorrupt)
	d = with(t, 1000, files)
	d.Turn("broken", 8*(second+frame.Room(1)), 1)
	d.Turn("down", 8*(second+frame.Room(1)), 1)
	fails(t, "both broken", d, budget.New(40), []string{"down", "broken"}, "out", 1, api.ErrCorrupt)
	files["down"] = file(1, letters("azb"))
	files["late"] = file(1, letters("bbbbb"))
	d = with(t, 1000, files)
	d.Turn("late", 8*second, 1)
	fails(t, "broken ahead of z", d, budget.New(40), []string{"down", "late"}, "out", 1, api.ErrCorrupt)
	files["down"] = file(1, letters("ba"))
	d = with(t, 1000, files)
	d.Turn("late", 8*second, 1)
	fails(t, "down ahead of what is broken", d, budget.New(40), []string{"down", "late"}, "out", 1, api.ErrOrder)
}

// TestMergeTurned: P17.1, wherever a bit of a file is turned.
func TestMergeTurned(t *testing.T) {
	x := dice(5)
	lists := [][]string{rising(&x, 2, 9, 256), rising(&x, 2, 4, 256), nil}
	ins, files := laid(2, lists)
	for _, in := range ins {
		for at := range 8 * len(files[in]) {
			d, b := with(t, 5000, files), budget.New(16)
			d.Turn(in, at, 1)
			x, e := Merge(d, b, ins, "out", 2, at%2 == 0)
			if x != (api.Info{}) || e != api.ErrCorrupt || b.Now() != 0 {
				t.Errorf("P17.1: bit %d of %s is turned: Merge = %v, %d, want none, %d", at, in, x, e, api.ErrCorrupt)
			}
		}
	}
}

// TestMergeFull: P17.1, a disk that is full on the way, or has no more files.
func TestMergeFull(t *testing.T) {
	x := dice(6)
	lists := some(&x, 3, 4, 9, 256)
	ins, files := laid(3, lists)
	used := 0
	for _, bytes := range files {
		used += len(bytes)
	}
	wanted := file(3, merged(lists, false))
	for room := used; room < used+len(wanted); room++ {
		d, b := with(t, room, files), budget.New(20)
		if x, e := Merge(d, b, ins, "out", 3, false); x != (api.Info{}) || e != api.ErrFull || b.Now() != 0 {
			t.Errorf("P17.1: room %d: Merge = %v, %d, in memory %d, want none, %d, 0", room, x, e, b.Now(), api.ErrFull)
		}
	}
	d := with(t, used+len(wanted), files)
	if _, e := Merge(d, budget.New(20), ins, "out", 3, false); e != api.OK {
		t.Errorf("P17.1: Merge into just the room: error %d, want %d", e, api.OK)
	}
	same(t, "P17.1", after(d), plus(files, "out", wanted))
	many := map[string]string{}
	for i := range api.MaxFiles {
		many["a"+strconv.Itoa(i)] = file(3, nil)
	}
	fails(t, "no file more", with(t, 1<<20, many), budget.New(20), []string{"a0"}, "out", 3, api.ErrFull)
}

// TestMergeFalls: P17.1, wherever the machine falls, that is told, and all is given back.
func TestMergeFalls(t *testing.T) {
	x := dice(7)
	lists := [][]string{rising(&x, 3, 9, 256), rising(&x, 3, 1, 256), nil, rising(&x, 3, 5, 256)}
	ins, files := laid(3, lists)
	for n := 0; ; n++ {
		d, b := with(t, 5000, files), budget.New(25)
		b.Take(3)
		calls := d.Calls()
		d.Arm(n)
		x, e := Merge(d, b, ins, "out", 3, false)
		made := d.Calls() - calls
		if b.Now() != 3 {
			t.Errorf("P17.1: a fall at call %d: in memory %d, want 3", n, b.Now())
		}
		if e == api.OK {
			// head, four opened by two each, 4 + 2 + 1 + 3 read, 4 blocks, end, kept
			if x.Count != 15 || made != n || made != 2+8+10+4+1+1 {
				t.Errorf("P17.1: %d records, %d calls, want 15, %d", x.Count, made, n)
			}
			return
		}
		if x != (api.Info{}) || e != api.ErrDown || made != n+1 {
			t.Errorf("P17.1: a fall at call %d: %v, %d, %d calls, want none, %d, %d", n, x, e, made, api.ErrDown, n+1)
		}
	}
}

// TestMergeReadsNoMore: P17.2, ahead of a block just those of the files were read that were come to, and what is ahead was written.
func TestMergeReadsNoMore(t *testing.T) {
	files := map[string]string{"a": file(1, letters("abcdefgh")), "b": file(1, letters("ijklm"))}
	room := frame.Room(1)
	for _, c := range []struct {
		name    string
		block   int
		written string
	}{{"a", 0, ""}, {"b", 0, ""}, {"a", 1, "abcd"}, {"a", 2, "abcdefgh"}, {"b", 1, "abcdefghijkl"}} {
		d := with(t, 1000, files)
		d.Turn(c.name, 8*(recfile.Head+c.block*room), 1)
		if x, e := Merge(d, budget.New(12), []string{"a", "b"}, "out", 1, false); x != (api.Info{}) || e != api.ErrCorrupt {
			t.Errorf("P17.1: Merge = %v, %d, want none, %d", x, e, api.ErrCorrupt)
		}
		whole := file(1, letters(c.written))
		if got, wanted := now(d)["out"], whole[:len(whole)-frame.End]; got != wanted {
			t.Errorf("P17.2: block %d of %s: out has %x, want %x", c.block, c.name, got, wanted)
		}
	}
}

// TestMergeKeeps: what is handed in is not kept, and stays as it was.
func TestMergeKeeps(t *testing.T) {
	d, b := with(t, 1000, map[string]string{"a": file(1, letters("ab")), "b": file(1, letters("a"))}), budget.New(12)
	before := after(d)
	for i, out := range []string{"out", "more"} {
		if x, e := Merge(d, b, []string{"a", "b"}, out, 1, i == 0); x.Count != 3-1+i || e != api.OK {
			t.Errorf("P17.1: Merge = %v, %d", x, e)
		}
	}
	same(t, "P17.1", after(d), plus(plus(before, "out", file(1, letters("ab"))), "more", file(1, letters("aab"))))
}

// TestClear: P17.1, files are removed in order, till one can't be.
func TestClear(t *testing.T) {
	files := map[string]string{"a": "1", "b": "22", "c": "", "d": "4"}
	for _, c := range []struct {
		names  []string
		wanted api.Errno
		left   string
		calls  int
	}{
		{nil, api.OK, "abcd", 0},
		{[]string{"b"}, api.OK, "acd", 1},
		{[]string{"c", "a"}, api.OK, "bd", 2},
		{[]string{"d", "c", "b", "a"}, api.OK, "", 4},
		{[]string{"b", "none", "a"}, api.ErrNone, "acd", 2},
		{[]string{"b", "b", "a"}, api.ErrNone, "acd", 2},
		{[]string{"none", "NONE"}, api.ErrNone, "abcd", 1},
		{[]string{"a", "NONE", "none"}, api.ErrArg, "bcd", 1},
		{[]string{""}, api.ErrArg, "abcd", 0},
	} {
		d := with(t, 1000, files)
		calls := d.Calls()
		if e := Clear(d, c.names); e != c.wanted {
			t.Errorf("P17.1: Clear of %q: error %d, want %d", c.names, e, c.wanted)
		}
		if made := d.Calls() - calls; made != c.calls {
			t.Errorf("P17.1: Clear of %q makes %d calls, want %d", c.names, made, c.calls)
		}
		wanted := map[string]string{}
		for _, name := range letters(c.left) {
			wanted[name] = files[name]
		}
		same(t, "P17.1", after(d), wanted)
	}
}

// TestClearFalls: P17.1, what stands behind a fall stays.
func TestClearFalls(t *testing.T) {
	files := map[string]string{"a": "1", "b": "22", "c": ""}
	for n, left := range []string{"abc", "bc", "c"} {
		d := with(t, 1000, files)
		d.Arm(n)
		if e := Clear(d, letters("abc")); e != api.ErrDown {
			t.Errorf("P17.1: Clear with a fall at call %d: error %d, want %d", n, e, api.ErrDown)
		}
		wanted := map[string]string{}
		for _, name := range letters(left) {
			wanted[name] = files[name]
		}
		same(t, "P17.1", after(d), wanted)
	}
}
