package xsort

import (
	"maps"
	"slices"
	"strings"
	"testing"

	"chainman/api"
	"chainman/budget"
	"chainman/frame"
	"chainman/fs"
	"chainman/recfile"
)

func disk(t *testing.T, room int) *fs.Disk {
	t.Helper()
	d, e := fs.New(room)
	if e != api.OK {
		t.Fatalf("a disk of %d: error %d", room, e)
	}
	return d
}

// with answers a disk of that room that has those files, all of them kept.
func with(t *testing.T, room int, files map[string]string) *fs.Disk {
	t.Helper()
	d := disk(t, room)
	for _, name := range slices.Sorted(maps.Keys(files)) {
		for _, e := range []api.Errno{d.Create(name), d.Append(name, files[name]), d.Sync(name)} {
			if e != api.OK {
				t.Fatalf("the file %s: error %d", name, e)
			}
		}
	}
	return d
}

// now answers the disk's files and their bytes, with those that wait.
func now(d *fs.Disk) map[string]string {
	names, _ := d.List()
	all := map[string]string{}
	for _, name := range names {
		n, _ := d.Size(name)
		all[name], _ = d.Read(name, 0, n)
	}
	return all
}

// after answers the disk's files and their bytes behind a fall of which nothing stays that waited; the disk stays as it was.
func after(d *fs.Disk) map[string]string {
	c := d.Clone()
	c.Rise(nil)
	return now(c)
}

// same fails the test, if there are other files than wanted, or other bytes of them.
func same(t *testing.T, promise string, got, wanted map[string]string) {
	t.Helper()
	for name, bytes := range wanted {
		if s, ok := got[name]; !ok || s != bytes {
			t.Errorf("%s: %s has %x, %v, want %x", promise, name, s, ok, bytes)
		}
	}
	if len(got) != len(wanted) {
		t.Errorf("%s: files %q, want %q", promise, slices.Sorted(maps.Keys(got)), slices.Sorted(maps.Keys(wanted)))
	}
}

func file(size int, l []string) string {
	s, _ := recfile.Lay(size, l)
	return s
}

// letters are records of one octet.
func letters(s string) []string { return strings.Split(s, "") }

// dice gives numbers that look like no others, always the same ones of a seed.
type dice uint32

func (x *dice) below(n int) int {
	*x = *x*1664525 + 1013904223
	return int(uint32(*x)>>8) % n
}

// some answers so many records of a size, of a few octets, so that some are alike.
func some(x *dice, size, n, octets int) []string {
	var l []string
	for range n {
		record := make([]byte, size)
		for i := range record {
			record[i] = byte(x.below(octets) * 255 / max(octets-1, 1))
		}
		l = append(l, string(record))
	}
	return l
}

// ordered answers the records as the document's words tell of them.
func ordered(l []string, unique bool) []string {
	var all []string
	for _, record := range l {
		i := 0
		for i < len(all) && all[i] < record {
			i++
		}
		if unique && i < len(all) && all[i] == record {
			continue
		}
		all = slices.Insert(all, i, record)
	}
	return all
}

// sorts fails the test, if Sort does anything but sort, with so many left.
func sorts(t *testing.T, size int, l []string, left int, unique bool) {
	t.Helper()
	in := file(size, l)
	d, b := with(t, api.MaxDisk, map[string]string{"in": in, "other": "not touched"}), budget.New(left+5)
	b.Take(5)
	wanted := ordered(l, unique)
	x, e := Sort(d, b, "in", "out", size, unique)
	if x != recfile.Sum(wanted) || e != api.OK {
		t.Fatalf("P18.1: Sort of %d records, %d left = %v, %d, want %v, %d", len(l), left, x, e, recfile.Sum(wanted), api.OK)
	}
	same(t, "P18.1", after(d), map[string]string{"in": in, "other": "not touched", "out": file(size, wanted)})
	if b.Now() != 5 || b.High() > left+5 {
		t.Errorf("P18.3: with %d left: in memory %d, at most %d, want 5, %d", left, b.Now(), b.High(), left+5)
	}
}

// fails fails the test, if Sort answers other than that error, or keeps any of the budget.
func fails(t *testing.T, what string, d *fs.Disk, b *budget.Budget, in, out string, size int, wanted api.Errno) {
	t.Helper()
	for _, unique := range []bool{false, true} {
		before, c := b.Now(), d.Clone()
		if c == nil { // a disk that New did not give has no clone
			c = d
		}
		if x, e := Sort(c, b, in, out, size, unique); x != (api.Info{}) || e != wanted {
			t.Errorf("P18.1: %s: Sort = %v, %d, want none, %d", what, x, e, wanted)
		}
		if b.Now() != before {
			t.Errorf("P18.1: %s: in memory %d, want %d", what, b.Now(), before)
		}
	}
}

// TestExample: P18.1, of b, a and b, byte by byte.
func TestExample(t *testing.T) {
	for _, c := range []struct {
		unique bool
		wanted string
	}{{true, "ab"}, {false, "abb"}} {
		in := file(1, letters("bab"))
		d, b := with(t, 1000, map[string]string{"a": in}), budget.New(16)
		x, e := Sort(d, b, "a", "b", 1, c.unique)
		if x != recfile.Sum(letters(c.wanted)) || e != api.OK {
			t.Errorf("P18.1: Sort = %v, %d, want that of %s, %d", x, e, c.wanted, api.OK)
		}
		same(t, "P18.1", after(d), map[string]string{"a": in, "b": file(1, letters(c.wanted))})
		if b.Now() != 0 || b.High() > 16 {
			t.Errorf("P18.3: in memory %d, at most %d, want 0, 16", b.Now(), b.High())
		}
	}
	if Least != 16 {
		t.Errorf("P18.1: Least is %d, want 16", Least)
	}
}

// TestSortSmall: P18.1, P18.3, of few records, also of none, and as few as may be left.
func TestSortSmall(t *testing.T) {
	x := dice(18)
	for n := range 75 {
		for left := 16; left < 26; left++ {
			sorts(t, 1+n%3, some(&x, 1+n%3, n, 2+x.below(255)), left, (n+left)%2 == 0)
		}
		sorts(t, 1, some(&x, 1, n, 3), 16, true)
		sorts(t, 1, some(&x, 1, n, 3), 16, false)
	}
}

// TestSortRounds: P18.1, P18.3, of counts about those of which one run more, or one round more, comes.
func TestSortRounds(t *testing.T) {
	x := dice(81)
	for _, left := range []int{16, 19, 20, 24, 60} {
		run := left - 8
		for _, files := range []int{1, 3, 4, 9, 10, 13, 27, 28} {
			for n := files*run - 1; n <= files*run+1; n++ {
				sorts(t, 2, some(&x, 2, n, 256), left, n%2 == 0)
			}
		}
	}
}

// TestSortMany: P18.1, P18.3, of many records, and records of any size, with much left, too.
func TestSortMany(t *testing.T) {
	x := dice(7)
	for size := 1; size <= 64; size++ {
		sorts(t, size, some(&x, size, x.below(400), 2+x.below(255)), 16+x.below(100), size%2 == 0)
	}
	sorts(t, 2, some(&x, 2, 3000, 256), 100, false)
	sorts(t, 2, some(&x, 2, 3000, 30), 100, true)
	sorts(t, 3, some(&x, 3, 66*252, 256), 260, false) // more runs than may become one at once
	sorts(t, 1, some(&x, 1, 500, 256), 1<<40, true)
	sorts(t, 1, some(&x, 1, 500, 256), 1<<62, false)
}

// TestSortFiles: P18.1, as many runs as a disk has files, but for what is sorted and one that they become; of more there is no room.
func TestSortFiles(t *testing.T) {
	x := dice(200)
	l := some(&x, 2, 8*(api.MaxFiles-2), 256)
	in := file(2, l)
	d := with(t, api.MaxDisk, map[string]string{"in": in})
	if _, e := Sort(d, budget.New(16), "in", "out", 2, false); e != api.OK {
		t.Fatalf("P18.1: Sort of %d runs: error %d, want %d", api.MaxFiles-2, e, api.OK)
	}
	same(t, "P18.1", after(d), map[string]string{"in": in, "out": file(2, ordered(l, false))})
	d = with(t, api.MaxDisk, map[string]string{"in": file(2, append(l, l[:9]...))})
	fails(t, "more runs than files", d, budget.New(16), "in", "out", 2, api.ErrFull)
	sorts(t, 2, append(l, l[:9]...), 17, true)
}

// TestSortAlike: P18.1, like ones, in one run and in several, are one, or all of them.
func TestSortAlike(t *testing.T) {
	for _, n := range []int{1, 2, 8, 9, 24, 25, 80, 200} {
		for _, l := range [][]string{
			slices.Repeat([]string{"a"}, n), slices.Repeat([]string{"b", "a"}, n), slices.Repeat([]string{"c", "a", "b"}, n),
			append(slices.Repeat([]string{"a"}, n), slices.Repeat([]string{"\x00"}, n)...),
		} {
			sorts(t, 1, l, 16, true)
			sorts(t, 1, l, 16, false)
		}
	}
}

// TestSortOrder: P18.1, records are in the order of their octets, each from 0 to 255.
func TestSortOrder(t *testing.T) {
	var falls []string
	for i := range 256 {
		falls = append(falls, string([]byte{byte(255 - i), byte(i)}))
	}
	rises := slices.Clone(falls)
	slices.Reverse(rises)
	for _, l := range [][]string{falls, rises} {
		for _, left := range []int{16, 17, 40, 264, 300} {
			sorts(t, 2, l, left, true)
			sorts(t, 2, l, left, false)
		}
	}
}

// TestSortHangs: P18.3, the file hangs on the records alone: not on how many fit, nor on how they stand.
func TestSortHangs(t *testing.T) {
	x := dice(3)
	l := some(&x, 3, 150, 4)
	for _, unique := range []bool{false, true} {
		wanted := file(3, ordered(l, unique))
		for left := 16; left < 200; left += 1 + left/20 {
			i := x.below(len(l))
			turned := append(slices.Clone(l[i:]), l[:i]...)
			d := with(t, 10000, map[string]string{"in": file(3, turned)})
			if _, e := Sort(d, budget.New(left), "in", "out", 3, unique); e != api.OK {
				t.Fatalf("P18.1: Sort with %d left: error %d", left, e)
			}
			if s := after(d)["out"]; s != wanted {
				t.Errorf("P18.3: with %d left the file has other bytes", left)
			}
		}
	}
}

// TestSortOver: P18.1, a file out that was there is gone, also if it is the one that is sorted.
func TestSortOver(t *testing.T) {
	x := dice(9)
	for _, n := range []int{0, 1, 8, 9, 50} {
		l := some(&x, 2, n, 9)
		in, wanted := file(2, l), file(2, ordered(l, true))
		for _, old := range []string{"", "no file of records", file(9, nil)} {
			d := with(t, 5000, map[string]string{"in": in, "out": old})
			if _, e := Sort(d, budget.New(16), "in", "out", 2, true); e != api.OK {
				t.Errorf("P18.1: Sort onto a file of %d bytes: error %d", len(old), e)
			}
			same(t, "P18.1", after(d), map[string]string{"in": in, "out": wanted})
		}
		d := with(t, 5000, map[string]string{"in": in})
		if x, e := Sort(d, budget.New(16), "in", "in", 2, true); x != recfile.Sum(ordered(l, true)) || e != api.OK {
			t.Errorf("P18.1: Sort of %d records onto themselves = %v, %d", n, x, e)
		}
		same(t, "P18.1", after(d), map[string]string{"in": wanted})
	}
}

// TestSortKeeps: P18.1, an out that was there is as it was, as long as there is an error.
func TestSortKeeps(t *testing.T) {
	d := with(t, 5000, map[string]string{"in": file(2, nil), "out": "old"})
	fails(t, "of another size", d, budget.New(16), "in", "out", 1, api.ErrCorrupt)
	Sort(d, budget.New(16), "in", "out", 1, true)
	if s := after(d)["out"]; s != "old" {
		t.Errorf("P18.1: behind an error out has %q", s)
	}
}

// TestSortStale: P18.1, with OK no file on the way is there any more, also none that was there ahead; others stay.
func TestSortStale(t *testing.T) {
	x := dice(11)
	stay := map[string]string{"out.r": "", "out.rr0": "", "out.r0a": "", "out.0": "", "outr0": "", "a.out.r0": "", "out.q1": "", "ou.r0": "", "in.r0": "", "r0": ""}
	for _, n := range []int{0, 3, 30, 200} {
		l := some(&x, 1, n, 200)
		all := maps.Clone(stay)
		all["in"] = file(1, l)
		wanted := maps.Clone(all)
		for _, rest := range []string{".0", ".1", ".2", ".9", ".10", ".25", "0.0", "0.1", "1.0", "0", "1", "7", "99", ".", "..", "1.2.3"} {
			all["out.r"+rest] = "left by another one"
		}
		wanted["out"] = file(1, ordered(l, false))
		d := with(t, 20000, all)
		if x, e := Sort(d, budget.New(16), "in", "out", 1, false); x != recfile.Sum(ordered(l, false)) || e != api.OK {
			t.Errorf("P18.1: Sort of %d records among files on the way = %v, %d", n, x, e)
		}
		same(t, "P18.1", after(d), wanted)
	}
}

// TestSortOnTheWay: P18.1, what is sorted may have a name on the way: its records are in the file out, and it is gone with the others.
func TestSortOnTheWay(t *testing.T) {
	x := dice(12)
	for _, rest := range []string{".0", ".1", ".5", ".30", "0.0", "0.1", "0", "1", "1.0", "00", ".", ".."} {
		for _, n := range []int{0, 1, 9, 100} {
			l := some(&x, 1, n, 200)
			d := with(t, 5000, map[string]string{"out.r" + rest: file(1, l), "out.r9": "left by another one"})
			if x, e := Sort(d, budget.New(16), "out.r"+rest, "out", 1, false); x != recfile.Sum(ordered(l, false)) || e != api.OK {
				t.Errorf("P18.1: Sort of out.r%s, %d records = %v, %d", rest, n, x, e)
			}
			same(t, "P18.1", after(d), map[string]string{"out": file(1, ordered(l, false))})
		}
	}
}

// TestSortBudget: P18.1, fewer than 16 left are told first, and nothing is done.
func TestSortBudget(t *testing.T) {
	files := map[string]string{"in": file(1, letters("ba")), "out": "old", "out.r0": "left"}
	d := with(t, 1000, files)
	calls := d.Calls()
	for left := range 16 {
		for _, in := range []string{"in", "none", "NO", "out"} {
			for _, size := range []int{1, 2, 0, 65} {
				b := budget.New(left + 100)
				b.Take(100)
				if x, e := Sort(d, b, in, "out", size, true); x != (api.Info{}) || e != api.ErrBudget {
					t.Errorf("P18.1: Sort with %d left = %v, %d, want none, %d", left, x, e, api.ErrBudget)
				}
				if b.Now() != 100 || b.High() != 100 {
					t.Errorf("P18.1: with %d left: in memory %d, at most %d, want 100, 100", left, b.Now(), b.High())
				}
			}
		}
	}
	for _, b := range []*budget.Budget{nil, {}, budget.New(0), budget.New(15)} {
		for _, d := range []*fs.Disk{nil, {}, d} {
			if x, e := Sort(d, b, "in", "out", 1, true); x != (api.Info{}) || e != api.ErrBudget {
				t.Errorf("P18.1: Sort with a budget of none = %v, %d, want none, %d", x, e, api.ErrBudget)
			}
		}
	}
	if d.Calls() != calls {
		t.Errorf("P18.1: %d calls, want none", d.Calls()-calls)
	}
	same(t, "P18.1", now(d), files)
}

// TestSortErrors: P18.1, arguments that may not be, and files that are none.
func TestSortErrors(t *testing.T) {
	l := letters("edcbalkjihgf")
	whole := file(1, l)
	d := with(t, 5000, map[string]string{
		"in": whole, "two": file(2, []string{"bb", "aa"}), "empty": "", "cut": whole[:len(whole)-1], "half": whole[:25], "long": whole + "x", "head": whole[:recfile.Head],
	})
	for _, c := range []struct {
		in, out string
		size    int
		wanted  api.Errno
	}{
		{"in", "out", 0, api.ErrArg}, {"in", "out", -1, api.ErrArg}, {"in", "out", 65, api.ErrArg}, {"none", "out", 0, api.ErrArg},
		{"", "out", 1, api.ErrArg}, {"IN", "out", 1, api.ErrArg}, {strings.Repeat("a", 25), "out", 1, api.ErrArg},
		{"in", "OUT", 1, api.ErrArg}, {"in", "", 1, api.ErrArg}, {"in", strings.Repeat("a", 25), 1, api.ErrArg}, {"in", "o-t", 1, api.ErrArg},
		{"none", "out", 1, api.ErrNone}, {"out", "out", 1, api.ErrNone}, {"out.r.0", "out", 1, api.ErrNone},
		{"two", "out", 1, api.ErrCorrupt}, {"in", "out", 2, api.ErrCorrupt}, {"in", "out", 64, api.ErrCorrupt},
		{"empty", "out", 1, api.ErrCorrupt}, {"cut", "out", 1, api.ErrCorrupt}, {"half", "out", 1, api.ErrCorrupt},
		{"long", "out", 1, api.ErrCorrupt}, {"head", "out", 1, api.ErrCorrupt},
	} {
		fails(t, c.in+" to "+c.out, d, budget.New(16), c.in, c.out, c.size, c.wanted)
		fails(t, c.in+" to "+c.out+" with more", d, budget.New(1000), c.in, c.out, c.size, c.wanted)
	}
	fails(t, "no disk", nil, budget.New(16), "in", "out", 1, api.ErrArg)
	fails(t, "a disk that New did not give", &fs.Disk{}, budget.New(16), "in", "out", 1, api.ErrArg)
}

// TestSortNames: P18.1, a name of which names on the way have room is enough; without them there is an error.
func TestSortNames(t *testing.T) {
	for n := 1; n <= api.MaxName; n++ {
		name := strings.Repeat("n", n)
		d := with(t, 5000, map[string]string{"in": file(1, letters("cab"))})
		x, e := Sort(d, budget.New(16), "in", name, 1, true)
		if n <= 20 && (x != recfile.Sum(letters("abc")) || e != api.OK) {
			t.Errorf("P18.1: Sort to a name of %d letters = %v, %d", n, x, e)
		}
		if n > 21 && (x != (api.Info{}) || e != api.ErrArg) { // .r and a digit have no room
			t.Errorf("P18.1: Sort to a name of %d letters = %v, %d, want none, %d", n, x, e, api.ErrArg)
		}
	}
}

// TestSortTurned: P18.1, wherever a bit of what is sorted is turned.
func TestSortTurned(t *testing.T) {
	x := dice(5)
	in := file(2, some(&x, 2, 21, 256))
	for at := range 8 * len(in) {
		d := with(t, 5000, map[string]string{"in": in})
		d.Turn("in", at, 1)
		fails(t, "a bit is turned", d, budget.New(16), "in", "out", 2, api.ErrCorrupt)
	}
}

// TestSortFull: P18.1, a disk that has not the room tells so; one that has room for what is sorted, and the runs, and the files that become one once more, has enough.
func TestSortFull(t *testing.T) {
	x := dice(6)
	for _, n := range []int{0, 5, 8, 20, 60} {
		l := some(&x, 2, n, 256)
		in := file(2, l)
		out := file(2, ordered(l, false))
		least := 0
		for room := len(in); room <= 3*len(in)+1000; room++ {
			d, b := with(t, room, map[string]string{"in": in}), budget.New(16)
			info, e := Sort(d, b, "in", "out", 2, false)
			if b.Now() != 0 {
				t.Errorf("P18.1: room %d: in memory %d, want 0", room, b.Now())
			}
			if e == api.OK {
				least = room
				same(t, "P18.1", after(d), map[string]string{"in": in, "out": out})
				break
			}
			if info != (api.Info{}) || e != api.ErrFull {
				t.Errorf("P18.1: room %d: Sort = %v, %d, want none, %d", room, info, e, api.ErrFull)
			}
			if _, ok := after(d)["out"]; ok {
				t.Errorf("P18.1: room %d: out is there behind an error", room)
			}
		}
		if least == 0 {
			t.Errorf("P18.1: %d records: no room is enough", n)
		}
	}
}

// TestSortFall: P18.1, wherever the machine falls, whatever stays: the error is told, what is sorted is there, out is as it was, or whole, and there are no more files on the way than runs, and one; sorted again it is the same file.
func TestSortFall(t *testing.T) {
	x := dice(8)
	for _, n := range []int{0, 4, 9, 30, 110} {
		l := some(&x, 2, n, 40)
		in, wanted := file(2, l), ordered(l, true)
		files := map[string]string{"in": in, "out": "old", "out.r7": "left"}
		done := false
		for at := 0; !done; at++ {
			d, b := with(t, 20000, files), budget.New(16)
			d.Arm(at)
			info, e := Sort(d, b, "in", "out", 2, true)
			done = e == api.OK
			if !done && (info != (api.Info{}) || e != api.ErrDown) || b.Now() != 0 {
				t.Fatalf("P18.1: a fall at call %d: Sort = %v, %d, in memory %d", at, info, e, b.Now())
			}
			d.Rise([]int{x.below(20), x.below(20), x.below(20), x.below(20)})
			there := now(d)
			if there["in"] != in || !done && there["out"] != "old" || done && there["out"] != file(2, wanted) {
				t.Errorf("P18.1: a fall at call %d: in or out is another one", at)
			}
			if ways := len(there) - 2; ways > (n+7)/8+2 || done && ways > 0 {
				t.Errorf("P18.1: a fall at call %d: %d files on the way", at, ways)
			}
			for name := range there {
				if name != "in" && name != "out" && !Is(name, "out") {
					t.Errorf("P18.1: a fall at call %d: the file %s is there", at, name)
				}
			}
			if info, e := Sort(d, b, "in", "out", 2, true); info != recfile.Sum(wanted) || e != api.OK {
				t.Fatalf("P18.1: behind a fall at call %d: Sort = %v, %d", at, info, e)
			}
			same(t, "P18.1", after(d), map[string]string{"in": in, "out": file(2, wanted)})
		}
	}
}

// rounds answers how often all records are written, by the document's words, and by files that are counted.
func rounds(n, left int) int {
	files := 0
	for ; n > 0; n -= left - 8 {
		files++
	}
	times := 1
	for ; files > 1; times++ {
		fewer := 0
		for ; files > 0; files -= min((left-4)/4, 64) {
			fewer++
		}
		files = fewer
	}
	return times
}

// TestPasses: P18.2, the chapter's example, and what comes of counting.
func TestPasses(t *testing.T) {
	if p := Passes(100, 16); p != 4 {
		t.Errorf("P18.2: Passes(100, 16) = %d, want 4", p)
	}
	for _, left := range []int{16, 17, 19, 20, 23, 24, 50, 255, 256, 259, 260, 263, 264, 300, 1000, 10000} {
		for n := range 3000 {
			if p := Passes(n, left); p != rounds(n, left) {
				t.Fatalf("P18.2: Passes(%d, %d) = %d, want %d", n, left, p, rounds(n, left))
			}
		}
		for n := 3000; n < 1<<21; n += n / 7 {
			if p := Passes(n, left); p != rounds(n, left) {
				t.Fatalf("P18.2: Passes(%d, %d) = %d, want %d", n, left, p, rounds(n, left))
			}
		}
	}
}

// TestPassesEdges: P18.2, where one pass more comes, and numbers that may not be.
func TestPassesEdges(t *testing.T) {
	for _, c := range []struct{ n, left, wanted int }{
		{0, 16, 1}, {1, 16, 1}, {8, 16, 1}, {9, 16, 2}, {24, 16, 2}, {25, 16, 3}, {72, 16, 3}, {73, 16, 4}, {216, 16, 4}, {217, 16, 5},
		{33, 19, 2}, {34, 19, 3}, {48, 20, 2}, {49, 20, 3},
		{252 * 64, 260, 2}, {252*64 + 1, 260, 3}, {251 * 63, 259, 2}, {251*63 + 1, 259, 3}, {256 * 64, 264, 2}, {256*64 + 1, 264, 3},
		{64 * 10000, 10008, 2}, {64*10000 + 1, 10008, 3},
		{1 << 40, 16, 25}, {1 << 40, 1 << 40, 2}, {1<<40 - 8, 1 << 40, 1}, {1<<40 - 7, 1 << 40, 2}, {0, 1 << 40, 1},
		{-1, 16, 0}, {1<<40 + 1, 16, 0}, {1<<63 - 1, 16, 0}, {-1 << 63, 16, 0},
		{1, 15, 0}, {0, 0, 0}, {1, 8, 0}, {100, 7, 0}, {100, -1, 0}, {100, -1 << 63, 0}, {1, 1<<40 + 1, 0}, {100, 1<<63 - 1, 0}, {-1, 15, 0},
	} {
		if p := Passes(c.n, c.left); p != c.wanted {
			t.Errorf("P18.2: Passes(%d, %d) = %d, want %d", c.n, c.left, p, c.wanted)
		}
	}
}

// TestPassesWritten: P18.2, Sort writes all records as often as Passes says: so many blocks of four are written, and read, and no others.
func TestPassesWritten(t *testing.T) {
	x := dice(2)
	for _, left := range []int{16, 20, 24, 40, 264} { // each run is of whole blocks
		for _, n := range []int{8, 64, 160, 256, 1024} {
			d := with(t, api.MaxDisk, map[string]string{"in": file(1, some(&x, 1, n, 256))})
			ahead := d.Calls()
			if _, e := Sort(d, budget.New(left), "in", "out", 1, false); e != api.OK {
				t.Fatalf("P18.1: Sort of %d records with %d left: error %d", n, left, e)
			}
			files := (n + left - 9) / (left - 8)
			runs := files
			for ; files > 1; runs += files {
				files = (files + min((left-4)/4, 64) - 1) / min((left-4)/4, 64)
			}
			// each file is created, begun, ended and kept, its head asked for in two calls, its end in one, and it is removed
			most := 8*(runs+1) + 8 + 2*Passes(n, left)*n/4
			if calls := d.Calls() - ahead; calls > most || calls < 2*Passes(n, left)*n/4 {
				t.Errorf("P18.2: Sort of %d records with %d left: %d calls, want at most %d", n, left, calls, most)
			}
		}
	}
}

// TestIs: P18.2, a name, .r, and one or more digits and dots.
func TestIs(t *testing.T) {
	for _, c := range []struct {
		name, out string
		wanted    bool
	}{
		{"b.r0.1", "b", true}, {"b.r", "b", false}, {"b.r0", "b", true}, {"b.r9", "b", true}, {"b.r.", "b", true}, {"b.r..", "b", true},
		{"b.r.0", "b", true}, {"b.r1234567890", "b", true}, {"b.r0.1.2.3", "b", true}, {"b.r0.", "b", true},
		{"b", "b", false}, {"b.", "b", false}, {"b.0", "b", false}, {"b0", "b", false}, {"b.r0a", "b", false}, {"b.ra0", "b", false},
		{"b.r0.r0", "b", false}, {"b.r0.r0", "b.r0", true}, {"b.rr0", "b", false}, {"b.r.r", "b", false}, {"b.r0.a.1", "b", false},
		{"a.r0", "b", false}, {"bb.r0", "b", false}, {"b.r0", "bb", false}, {"ab.r0", "b", false}, {"r0", "b", false}, {".r0", "b", false},
		{"b.r0 ", "b", false}, {"b.r-1", "b", false}, {"b.r/", "b", false}, {"b.r:", "b", false}, {"b.R0", "b", false}, {"B.r0", "b", false},
		{"b.r\x00", "b", false}, {"b.r\xff", "b", false}, {"b.r\u0661", "b", false}, {"bxr0", "b", false},
		{"", "", false}, {"", "b", false}, {".r0", "", true}, {".r", "", false}, {"pairs.out.r.12", "pairs.out", true}, {"pairs.r.12", "pairs.out", false},
	} {
		if is := Is(c.name, c.out); is != c.wanted {
			t.Errorf("P18.2: Is(%q, %q) = %v, want %v", c.name, c.out, is, c.wanted)
		}
	}
	for i := range 256 {
		digit := i == '.' || '0' <= i && i <= '9'
		for _, name := range []string{string([]byte{'b', '.', 'r', byte(i)}), string([]byte{'b', '.', 'r', '0', byte(i)}), string([]byte{'b', '.', 'r', byte(i), '0'})} {
			if Is(name, "b") != digit {
				t.Errorf("P18.2: Is(%q, b) = %v, want %v", name, !digit, digit)
			}
		}
	}
}

// TestSortEnd: P18.1, what is told is what the file's end says.
func TestSortEnd(t *testing.T) {
	x := dice(13)
	for _, n := range []int{0, 1, 8, 9, 77} {
		d := with(t, 5000, map[string]string{"in": file(5, some(&x, 5, n, 2))})
		info, e := Sort(d, budget.New(16), "in", "out", 5, true)
		s := after(d)["out"]
		if end, ok := frame.GetEnd(s[len(s)-frame.End:]); !ok || end != info || e != api.OK {
			t.Errorf("P18.1: %d records: Sort = %v, %d, the end says %v, %v", n, info, e, end, ok)
		}
	}
}
