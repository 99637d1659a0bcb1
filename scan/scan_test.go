package scan

import (
	"fmt"
	"maps"
	"math"
	"slices"
	"strings"
	"testing"
	"unsafe"

	"chainman/api"
	"chainman/budget"
	"chainman/frame"
	"chainman/fs"
	"chainman/manifest"
	"chainman/reader"
	"chainman/recfile"
	"chainman/stage"
)

// has is a file of a disk: bytes that are kept, and bytes that wait behind them.
type has struct{ name, kept, waits string }

func disk(t *testing.T, files ...has) *fs.Disk {
	t.Helper()
	d, e := fs.New(1 << 20)
	if e != api.OK {
		t.Fatalf("a disk: error %d", e)
	}
	for _, f := range files {
		for _, e := range []api.Errno{d.Create(f.name), d.Append(f.name, f.kept), d.Sync(f.name), d.Append(f.name, f.waits)} {
			if e != api.OK {
				t.Fatalf("the file %s: error %d", f.name, e)
			}
		}
	}
	return d
}

// now answers the files of a disk behind a fall, of whose waiting bytes so many stay; the disk is left as it is.
func now(d *fs.Disk, stay int) map[string]string {
	c := d.Clone()
	c.Rise(slices.Repeat([]int{stay}, api.MaxFiles))
	names, _ := c.List()
	all := map[string]string{}
	for _, name := range names {
		n, _ := c.Size(name)
		all[name], _ = c.Read(name, 0, n)
	}
	return all
}

// names answers which files a disk has, in order; the disk is left as it is.
func names(d *fs.Disk) []string { return slices.Sorted(maps.Keys(now(d, 0))) }

// alike fails the test, if two disks have unlike files, or unlike bytes that wait, or had another number of calls, or are unlike in whether they are up, or armed.
func alike(t *testing.T, what string, got, wanted *fs.Disk) {
	t.Helper()
	for _, stay := range []int{0, 1, api.MaxDisk} {
		if a, b := now(got, stay), now(wanted, stay); !maps.Equal(a, b) {
			t.Fatalf("%s: with %d that stay, files %q, want %q", what, stay, a, b)
		}
	}
	if got.Calls() != wanted.Calls() {
		t.Fatalf("%s: %d calls, want %d", what, got.Calls(), wanted.Calls())
	}
	if a, b := got.Clone().Sync("zz"), wanted.Clone().Sync("zz"); a != b {
		t.Fatalf("%s: behind it Sync = %d, want %d", what, a, b)
	}
}

// records are so many records of a size, no two alike in a few hundred, if it is above 1.
func records(size, n int) []string {
	var l []string
	for i := range n {
		record := []byte(strings.Repeat(".", size))
		for at := range record {
			record[at] = byte(i*31 + at*7 + i/200)
		}
		l = append(l, string(record))
	}
	return l
}

func lay(t *testing.T, size int, l []string) string {
	t.Helper()
	s, ok := recfile.Lay(size, l)
	if !ok {
		t.Fatalf("no file of %d records of %d", len(l), size)
	}
	return s
}

// listed answers a file of so many records: as a manifest lists it, and its bytes.
func listed(t *testing.T, name string, size, n int) (api.File, string) {
	t.Helper()
	l := records(size, n)
	end := recfile.Sum(l)
	return api.File{Name: name, Size: size, Count: end.Count, Sum: end.Sum}, lay(t, size, l)
}

// sizes are those of a job's files, the least and the most.
func sizes() []int { return []int{1, 8, 12, 17, 64} }

// wrongNames are texts that are no names.
func wrongNames() []string {
	return []string{"", " ", "A", "a-b", "a/b", "ä", "a\x00", strings.Repeat("a", 25)}
}

// unlike are files of which little is otherwise than of f, and which no file of f's records is.
func unlike(f api.File) []api.File {
	var l []api.File
	for _, by := range []int{-1, 1, 4, 256, 1 << 32, 1 << 40, 1 << 61, math.MinInt} {
		x := f
		x.Count += by
		l = append(l, x)
	}
	for i := range 32 {
		x := f
		x.Sum ^= 1 << i
		l = append(l, x)
	}
	return l
}

// stands fails the test, if Stands answers otherwise.
func stands(t *testing.T, what string, d *fs.Disk, f api.File, wanted bool, tells api.Errno) {
	t.Helper()
	if ok, e := Stands(d, f); ok != wanted || e != tells {
		t.Fatalf("P22.1: %s: Stands(%v) = %v, %d, want %v, %d", what, f, ok, e, wanted, tells)
	}
}

// whole fails the test, if Whole answers otherwise, or keeps something of the budget.
func whole(t *testing.T, promise, what string, d *fs.Disk, f api.File, wanted bool, tells api.Errno) {
	t.Helper()
	b := budget.New(4)
	if ok, e := Whole(d, b, f); ok != wanted || e != tells {
		t.Fatalf("%s: %s: Whole(%v) = %v, %d, want %v, %d", promise, what, f, ok, e, wanted, tells)
	}
	if b.Now() != 0 {
		t.Fatalf("%s: %s: behind Whole %d records are in memory", promise, what, b.Now())
	}
}

// TestStands: P22.1, files of all sizes, kept or waiting, and what is told of them otherwise.
func TestStands(t *testing.T) {
	for _, size := range sizes() {
		for n := range 10 {
			f, s := listed(t, "a", size, n)
			for _, file := range []has{{"a", s, ""}, {"a", "", s}, {"a", s[:5], s[5:]}} {
				d := disk(t, has{"b", "other", ""}, file)
				stands(t, "a file of records", d, f, true, api.OK)
				for _, x := range unlike(f) {
					stands(t, "of another count or sum", d, x, false, api.OK)
				}
				for other := -1; other <= 70; other++ {
					x := f
					x.Size = other
					// files of no records have the same length and the same end, whatever the size is
					stands(t, "of another size", d, x, other == size || n == 0 && 1 <= other && other <= 64, api.OK)
				}
			}
		}
	}
}

// TestStandsEnd: P22.1, of the bytes just the last 17 are looked at, and how many there are.
func TestStandsEnd(t *testing.T) {
	for _, n := range []int{0, 1, 7} { // of no records the sum is 0, as where there is no end
		f, s := listed(t, "a", 8, n)
		for at := range len(s) {
			d := disk(t, has{"a", s, ""})
			d.Turn("a", 8*at, 0xff)
			stands(t, fmt.Sprintf("the byte %d turned", at), d, f, at < len(s)-17, api.OK)
		}
	}
	f, s := listed(t, "a", 8, 7)
	end, _ := frame.PutEnd(api.Info{Count: f.Count, Sum: f.Sum})
	for _, x := range []struct {
		what, s string
		wanted  bool
	}{
		{"others, and the end", strings.Repeat("x", len(s)-17) + end, true},
		{"a byte more ahead", "x" + s, false},
		{"a byte more behind", s + "\x00", false},
		{"a byte less ahead", s[1:], false},
		{"a byte less behind", s[:len(s)-1], false},
		{"a byte to and fro", s[1:] + "\x00", false},
		{"the end alone", end, false},
		{"twice", s + s, false},
		{"the end ahead", end + s[:len(s)-17], false},
		{"nothing", "", false},
		{"others", strings.Repeat("\x00", len(s)), false},
	} {
		stands(t, x.what, disk(t, has{"a", x.s, ""}), f, x.wanted, api.OK)
	}
}

// TestStandsShort: P22.1, fewer than 17 bytes: that is all that is asked of the disk, also where no file of records has a length.
func TestStandsShort(t *testing.T) {
	for n := range 17 {
		for _, f := range []api.File{{Name: "a"}, {Name: "a", Size: 65}, {Name: "a", Size: -1}, {Name: "a", Size: 1, Count: -1}, {Name: "a", Size: 64, Count: 1<<40 + 1}, {Name: "a", Size: 1}, {Name: "a", Size: math.MaxInt, Count: math.MaxInt}, {Name: "a", Size: math.MinInt, Count: math.MinInt}} {
			d := disk(t, has{"a", strings.Repeat("\x00", n), ""})
			calls := d.Calls()
			stands(t, fmt.Sprint("bytes: ", n), d, f, false, api.OK)
			if d.Calls() != calls+1 {
				t.Errorf("P22.1: of %d bytes: %d calls, want 1", n, d.Calls()-calls)
			}
		}
	}
}

// standsTold does to a disk, call by call, what the chapter says of Stands.
func standsTold(d *fs.Disk, f api.File) (bool, api.Errno) {
	n, e := d.Size(f.Name)
	switch {
	case e == api.ErrNone, e == api.OK && n != recfile.Length(f.Size, f.Count):
		return false, api.OK
	case e != api.OK:
		return false, e
	case n < 17:
		return false, api.OK
	}
	s, e := d.Read(f.Name, n-17, 17)
	if e != api.OK {
		return false, e
	}
	end, _ := frame.PutEnd(api.Info{Count: f.Count, Sum: f.Sum})
	return s == end, api.OK
}

// TestStandsCalls: P22.1, what the disk tells, behind a fall at any call: the same calls, and the errors of them.
func TestStandsCalls(t *testing.T) {
	f, s := listed(t, "a", 12, 5)
	files := append(unlike(f), f)
	for _, name := range append(wrongNames(), "b", "empty", "none") {
		x := f
		x.Name = name
		files = append(files, x, api.File{Name: name})
	}
	seen := map[api.Errno]int{}
	for _, x := range files {
		for n := -1; n <= 3; n++ {
			got := disk(t, has{"a", s, ""}, has{"b", s[:20], s[20:]}, has{"empty", "", ""})
			wanted := got.Clone()
			got.Arm(n)
			wanted.Arm(n)
			ok, e := Stands(got, x)
			okTold, eTold := standsTold(wanted, x)
			what := fmt.Sprintf("P22.1: Stands(%v), armed with %d", x, n)
			if ok != okTold || e != eTold {
				t.Fatalf("%s = %v, %d, want %v, %d", what, ok, e, okTold, eTold)
			}
			alike(t, what, got, wanted)
			seen[e]++
		}
	}
	for _, e := range []api.Errno{api.OK, api.ErrArg, api.ErrDown} { // or the walk shows little
		if seen[e] == 0 {
			t.Errorf("no Stands told %d: %v", e, seen)
		}
	}
}

// TestWhole: P22.1, files of all sizes, and what is told of them otherwise.
func TestWhole(t *testing.T) {
	for _, size := range sizes() {
		for n := range 10 {
			f, s := listed(t, "a", size, n)
			for _, file := range []has{{"a", s, ""}, {"a", "", s}, {"a", s[:5], s[5:]}} {
				d := disk(t, has{"b", "other", ""}, file)
				whole(t, "P22.1", "a file of records", d, f, true, api.OK)
				for _, x := range unlike(f) {
					whole(t, "P22.1", "of another count or sum", d, x, false, api.OK)
				}
				for other := -1; other <= 70; other++ {
					x, e := f, api.OK
					x.Size = other
					if other < 1 || other > 64 {
						e = api.ErrArg
					}
					whole(t, "P22.1", "of another size", d, x, other == size, e)
				}
			}
		}
	}
}

// TestWholeOthers: P22.1, bytes that are no file of records, and files that are not there.
func TestWholeOthers(t *testing.T) {
	f, s := listed(t, "a", 8, 7)
	_, longer := listed(t, "a", 8, 8)
	_, shorter := listed(t, "a", 8, 6)
	other := lay(t, 8, append(records(8, 6), "otherone"))
	bad := []string{s + "\x00", "\x00" + s, s + s, s[1:], s[1:] + "\x00", strings.Repeat("x", len(s)), s[:len(s)-17] + longer[len(longer)-17:], longer, shorter, other}
	for n := range len(s) {
		bad = append(bad, s[:n])
	}
	for _, b := range bad {
		whole(t, "P22.1", fmt.Sprintf("of %q", b), disk(t, has{"a", b, ""}), f, false, api.OK)
	}
	whole(t, "P22.1", "of no file", disk(t, has{"b", s, ""}), f, false, api.OK)
	whole(t, "P22.1", "of an empty disk", disk(t), f, false, api.OK)
	for _, name := range wrongNames() {
		f.Name = name
		whole(t, "P22.1", "of what is no name", disk(t, has{"a", s, ""}), f, false, api.ErrArg)
	}
}

// TestWholeBudget: P22.1, four records of the budget are held while the file is read, and none behind it.
func TestWholeBudget(t *testing.T) {
	f, s := listed(t, "a", 8, 9)
	d := disk(t, has{"a", s, ""})
	for m := range 9 {
		for taken := 0; taken <= m; taken++ {
			b := budget.New(m)
			b.Take(taken)
			wanted := api.OK
			if m-taken < 4 {
				wanted = api.ErrBudget
			}
			ok, e := Whole(d, b, f)
			if ok != (wanted == api.OK) || e != wanted {
				t.Errorf("P22.1: with %d of %d taken, Whole = %v, %d, want %d", taken, m, ok, e, wanted)
			}
			if b.Now() != taken || wanted == api.OK && b.High() != taken+4 {
				t.Errorf("P22.1: with %d of %d taken, behind Whole %d are, and %d were", taken, m, b.Now(), b.High())
			}
		}
	}
	none := api.File{Name: "none", Size: 8}
	if ok, e := Whole(d, budget.New(3), none); ok || e != api.ErrBudget {
		t.Errorf("P22.1: of no file, with 3, Whole = %v, %d, want %d", ok, e, api.ErrBudget)
	}
	for _, b := range []*budget.Budget{nil, {}} {
		if ok, e := Whole(d, b, f); ok || e != api.ErrArg {
			t.Errorf("P22.1: of no budget, Whole = %v, %d, want %d", ok, e, api.ErrArg)
		}
	}
}

// wholeTold reads a file as the chapter says of Whole.
func wholeTold(d *fs.Disk, f api.File) (bool, api.Errno) {
	r, e := reader.Open(d, budget.New(4), f.Name, f.Size)
	if e == api.ErrCorrupt || e == api.ErrNone {
		return false, api.OK
	}
	if e != api.OK {
		return false, e
	}
	for {
		_, more, e := r.Next()
		if e == api.ErrCorrupt {
			return false, api.OK
		}
		if e != api.OK {
			return false, e
		}
		if !more {
			end, _ := r.Info()
			return end.Count == f.Count && end.Sum == f.Sum, api.OK
		}
	}
}

// TestWholeCalls: P22.1, behind a fall at any call: just the reader's calls, to the end, and their errors.
func TestWholeCalls(t *testing.T) {
	f, s := listed(t, "a", 12, 9)
	files := append(unlike(f), f)
	for _, name := range append(wrongNames(), "b", "empty", "none", "turned") {
		x := f
		x.Name = name
		files = append(files, x, api.File{Name: name}, api.File{Name: name, Size: 17})
	}
	seen := map[api.Errno]int{}
	for _, x := range files {
		for n := -1; n <= 8; n++ {
			got := disk(t, has{"a", s, ""}, has{"b", s[:20], s[20:]}, has{"empty", "", ""}, has{"turned", s, ""})
			got.Turn("turned", 8*80, 1)
			wanted := got.Clone()
			got.Arm(n)
			wanted.Arm(n)
			b := budget.New(4)
			ok, e := Whole(got, b, x)
			okTold, eTold := wholeTold(wanted, x)
			what := fmt.Sprintf("P22.1: Whole(%v), armed with %d", x, n)
			if ok != okTold || e != eTold || b.Now() != 0 {
				t.Fatalf("%s = %v, %d, want %v, %d; %d in memory", what, ok, e, okTold, eTold, b.Now())
			}
			alike(t, what, got, wanted)
			seen[e]++
		}
	}
	for _, e := range []api.Errno{api.OK, api.ErrArg, api.ErrDown} { // or the walk shows little
		if seen[e] == 0 {
			t.Errorf("no Whole told %d: %v", e, seen)
		}
	}
}

// TestWholeTurned: P22.3, bits of a block's records and sum that are turned, all within 32 neighbouring ones, wherever: it is not whole, and it may stand.
func TestWholeTurned(t *testing.T) {
	for _, size := range []int{1, 8, 17} {
		f, s := listed(t, "a", size, 6)
		first := 8 * 11 // behind the head
		for _, block := range []int{frame.Room(size), 1 + 2*size + 4} {
			for at := first + 8; at < first+8*block; at++ {
				for _, bits := range []uint32{1, 3, 1<<31 | 1, 0x9e3779b1, math.MaxUint32} {
					bits &= uint32(uint64(1)<<min(first+8*block-at, 32) - 1) // just those of this block
					d := disk(t, has{"a", s, ""})
					d.Turn("a", at, bits)
					whole(t, "P22.3", fmt.Sprintf("with the bits %x at %d turned", bits, at), d, f, false, api.OK)
					stands(t, "turned ahead of the end", d, f, true, api.OK)
				}
			}
			first += 8 * block
		}
	}
}

// TestWholeAnyTurned: P22.1, also of the head, of how many records a block has, and of the end: one bit.
func TestWholeAnyTurned(t *testing.T) {
	f, s := listed(t, "a", 8, 6)
	for at := range 8 * len(s) {
		d := disk(t, has{"a", s, ""})
		d.Turn("a", at, 1)
		whole(t, "P22.1", fmt.Sprintf("with the bit %d turned", at), d, f, false, api.OK)
	}
}

// sweepTold does to a disk, call by call, what the chapter says of Sweep.
func sweepTold(d *fs.Disk, keep []string) (int, api.Errno) {
	l, e := d.List()
	if e != api.OK {
		return 0, e
	}
	n := 0
	for _, name := range l {
		if !slices.Contains(keep, name) {
			if e := d.Remove(name); e != api.OK {
				return n, e
			}
			n++
		}
	}
	return n, api.OK
}

// keeps are lists of what is to be kept of the files a, b, b.out, c and d0.
func keeps() [][]string {
	return [][]string{
		nil,
		{},
		{"a"},
		{"d0"},
		{"b"},
		{"b.out", "c"},
		{"d0", "a"},
		{"a", "a", "a"},
		{"d0", "c", "b.out", "b", "a"},
		{"e", "", "A", "b.", "aa", strings.Repeat("a", 25), "c\x00", "d"},
		{"", "c", "\xff", "a", "c"},
	}
}

// TestSweep: P22.1, what is not to be kept is gone, and how many are; what waits of others stays as it is.
func TestSweep(t *testing.T) {
	all := []has{{"a", "1", "23"}, {"b", "", "4"}, {"b.out", "5", ""}, {"c", "", ""}, {"d0", "67", "8"}}
	for _, keep := range keeps() {
		d := disk(t, all...)
		var stay []has
		for _, f := range all {
			if slices.Contains(keep, f.name) {
				stay = append(stay, f)
			}
		}
		given := slices.Clone(keep)
		n, e := Sweep(d, keep)
		if n != len(all)-len(stay) || e != api.OK {
			t.Errorf("P22.1: Sweep(%q) = %d, %d, want %d, %d", keep, n, e, len(all)-len(stay), api.OK)
		}
		for _, staying := range []int{0, 1, 9} {
			if got, wanted := now(d, staying), now(disk(t, stay...), staying); !maps.Equal(got, wanted) {
				t.Errorf("P22.1: behind Sweep(%q), files %q, want %q", keep, got, wanted)
			}
		}
		if n, e := Sweep(d, keep); n != 0 || e != api.OK {
			t.Errorf("P22.1: Sweep(%q) again = %d, %d, want 0, %d", keep, n, e, api.OK)
		}
		if !slices.Equal(keep, given) {
			t.Errorf("0.5: behind Sweep, what is kept is %q, want %q", keep, given)
		}
	}
}

// TestSweepFalls: P22.1, the machine falls at any call: the error, and how many were removed ahead, the first ones in order.
func TestSweepFalls(t *testing.T) {
	for _, keep := range keeps() {
		for n := -1; n <= 7; n++ {
			got := disk(t, has{"c", "", ""}, has{"a", "1", "23"}, has{"d0", "67", "8"}, has{"b.out", "5", ""}, has{"b", "", "4"})
			wanted := got.Clone()
			got.Arm(n)
			wanted.Arm(n)
			removed, e := Sweep(got, keep)
			removedTold, eTold := sweepTold(wanted, keep)
			what := fmt.Sprintf("P22.1: Sweep(%q), armed with %d", keep, n)
			if removed != removedTold || e != eTold {
				t.Fatalf("%s = %d, %d, want %d, %d", what, removed, e, removedTold, eTold)
			}
			alike(t, what, got, wanted)
		}
	}
	d := disk(t, has{"a", "", ""}, has{"b", "", ""}, has{"c", "", ""}, has{"d", "", ""})
	d.Arm(3)
	if n, e := Sweep(d, []string{"b"}); n != 2 || e != api.ErrDown || !slices.Equal(names(d), []string{"b", "d"}) {
		t.Errorf("P22.1: Sweep, armed with 3 = %d, %d, files %q, want 2, %d, [b d]", n, e, names(d), api.ErrDown)
	}
	if n, e := Sweep(d, nil); n != 0 || e != api.ErrDown {
		t.Errorf("P22.1: Sweep of a machine that fell = %d, %d, want 0, %d", n, e, api.ErrDown)
	}
}

// TestSweepMany: P22.1, of as many files as there may be, and of none.
func TestSweepMany(t *testing.T) {
	d := disk(t)
	if n, e := Sweep(d, nil); n != 0 || e != api.OK || d.Calls() != 1 {
		t.Errorf("P22.1: Sweep of an empty disk = %d, %d, %d calls, want 0, %d, 1", n, e, d.Calls(), api.OK)
	}
	var keep []string
	for i := range api.MaxFiles {
		name := fmt.Sprint("f.", i)
		d.Create(name)
		if i%3 == 0 {
			keep = append(keep, name)
		}
	}
	if n, e := Sweep(d, keep); n != api.MaxFiles-len(keep) || e != api.OK {
		t.Errorf("P22.1: Sweep = %d, %d, want %d, %d", n, e, api.MaxFiles-len(keep), api.OK)
	}
	if slices.Sort(keep); !slices.Equal(names(d), keep) {
		t.Errorf("P22.1: behind Sweep, files %q, want %q", names(d), keep)
	}
}

// manifests are some of all kinds of stages, those that no job has among them.
func manifests() []api.Manifest {
	var l []api.Manifest
	for _, s := range []int{math.MinInt, -1, 0, 1, 2, 3, 4, 5, 6, 7, 8, 263, math.MaxInt} {
		for _, files := range [][]api.File{
			nil,
			{{Name: "pairs", Size: 8, Count: 3, Sum: 4}, {Name: "graph", Size: 17, Count: 5, Sum: 6}},
			{{Name: "graph", Size: 1, Count: -3}, {Name: "graph", Size: 2, Sum: 9}, {Name: "pairs", Size: -5}},
			{{Name: "pairs.out"}, {Name: ""}, {Name: "a"}, {Name: strings.Repeat("a", 24)}, {Name: "A b"}},
			{{Name: "input"}, {Name: "manifest"}, {Name: "pairs"}, {Name: "pairs.out"}},
		} {
			l = append(l, api.Manifest{Stage: s, Files: files}, api.Manifest{Stage: s, Pass: 3, Files: files})
		}
	}
	return l
}

// theres are lists of which files there are.
func theres() [][]string {
	return [][]string{
		nil,
		{"pairs"},
		{"graph"},
		{"graph", "pairs"},
		{"graph.out", "pairs.out"},
		{"pairs", "graph.out", "pairs.out"},
		{"graph", "graph.out", "pairs", "pairs.out", "input", "conf", "manifest"},
		{"pairs", "pairs"},
		{"", "a", "pairs.out.out", "Graph", "graphs", "pair"},
	}
}

// whereTold answers what the chapter says of where the listed files are.
func whereTold(m api.Manifest, there []string) []api.File {
	var l []api.File
	for _, f := range m.Files {
		name := f.Name
		if m.Stage == 7 && !slices.Contains(there, f.Name) {
			name = f.Name + ".out"
		}
		l = append(l, api.File{Name: name, Size: f.Size, Count: f.Count, Sum: f.Sum})
	}
	return l
}

// TestWhere: P22.1, of manifests and files of all kinds.
func TestWhere(t *testing.T) {
	for _, m := range manifests() {
		for _, there := range theres() {
			if got, wanted := Where(m, there), whereTold(m, there); !slices.Equal(got, wanted) {
				t.Errorf("P22.1: Where(%v, %q) = %v, want %v", m, there, got, wanted)
			}
		}
	}
}

// TestWhereDone: P22.1, each file for itself, and of Done alone.
func TestWhereDone(t *testing.T) {
	files := []api.File{{Name: "pairs", Size: 8, Count: 1, Sum: 2}, {Name: "graph", Size: 17, Count: 3, Sum: 4}}
	for _, x := range []struct {
		stage  int
		there  []string
		wanted []string
	}{
		{api.StageDone, []string{"graph", "pairs"}, []string{"pairs", "graph"}},
		{api.StageDone, []string{"graph.out", "pairs"}, []string{"pairs", "graph.out"}},
		{api.StageDone, []string{"graph", "pairs.out"}, []string{"pairs.out", "graph"}},
		{api.StageDone, []string{"graph.out", "pairs.out"}, []string{"pairs.out", "graph.out"}},
		{api.StageDone, nil, []string{"pairs.out", "graph.out"}},
		{api.StageMirror, nil, []string{"pairs", "graph"}},
		{api.StageMirror, []string{"graph.out", "pairs.out"}, []string{"pairs", "graph"}},
		{0, nil, []string{"pairs", "graph"}},
	} {
		m := api.Manifest{Stage: x.stage, Files: files}
		var wanted []api.File
		for i, name := range x.wanted {
			f := files[i]
			f.Name = name
			wanted = append(wanted, f)
		}
		if got := Where(m, x.there); !slices.Equal(got, wanted) {
			t.Errorf("P22.1: Where(%v, %q) = %v, want %v", m, x.there, got, wanted)
		}
		if got, wanted := Keeps(m, x.there), append([]string{"input", "conf", "manifest"}, x.wanted...); !slices.Equal(got, wanted) {
			t.Errorf("P22.1: Keeps(%v, %q) = %q, want %q", m, x.there, got, wanted)
		}
	}
}

// TestKeeps: P22.1, three names ahead, and those where the listed files are.
func TestKeeps(t *testing.T) {
	for _, m := range manifests() {
		for _, there := range theres() {
			wanted := []string{"input", "conf", "manifest"}
			for _, f := range whereTold(m, there) {
				wanted = append(wanted, f.Name)
			}
			if got := Keeps(m, there); !slices.Equal(got, wanted) {
				t.Errorf("P22.1: Keeps(%v, %q) = %q, want %q", m, there, got, wanted)
			}
		}
	}
}

// TestOwn: what is given is not changed, and answers are memory of their own.
func TestOwn(t *testing.T) {
	name := strings.Repeat("pairs", 2)
	m := api.Manifest{Stage: api.StageCells, Files: []api.File{{Name: name, Size: 8}, {Name: "", Size: 9}}}
	there := []string{name, "b"}
	files, kept := Where(m, there), Keeps(m, there)
	for _, got := range []string{files[0].Name, kept[3]} {
		if got != name || unsafe.StringData(got) == unsafe.StringData(name) {
			t.Errorf("0.5: the name %q is not one of its own", got)
		}
	}
	files[0].Size, files[1].Name, kept[0] = 1, "x", "x"
	if m.Files[0] != (api.File{Name: name, Size: 8}) || m.Files[1].Name != "" || !slices.Equal(there, []string{name, "b"}) || Keeps(m, there)[0] != "input" {
		t.Errorf("0.5: what was given is %v, %q", m, there)
	}
}

// TestNoDisk: of a nil Disk, and one that New did not give, the disk's own error is told.
func TestNoDisk(t *testing.T) {
	for _, d := range []*fs.Disk{nil, {}} {
		f := api.File{Name: "a", Size: 8}
		stands(t, "of no disk", d, f, false, api.ErrArg)
		whole(t, "P22.1", "of no disk", d, f, false, api.ErrArg)
		if n, e := Sweep(d, nil); n != 0 || e != api.ErrArg {
			t.Errorf("P22.1: of no disk, Sweep = %d, %d, want 0, %d", n, e, api.ErrArg)
		}
		starts(t, "P22.2", "of no disk", d, 5, api.Manifest{}, api.ErrArg)
	}
}

// starts fails the test, if Start answers otherwise.
func starts(t *testing.T, promise, what string, d *fs.Disk, rounds int, wanted api.Manifest, tells api.Errno) {
	t.Helper()
	m, e := Start(d, rounds)
	if e != tells || !manifest.Same(m, wanted) || wanted.Stage == 0 && m.Files != nil {
		t.Fatalf("%s: %s: Start of %d rounds = %v, %d, want %v, %d", promise, what, rounds, m, e, wanted, tells)
	}
}

// job is a disk on which a job is so far, and its manifest.
type job struct {
	m     api.Manifest
	files []has // the manifest's among them
}

// made answers a job of which that much is done; of Done the first so many files are under their names yet on the way.
func made(t *testing.T, done stage.Step, onWay int) job {
	t.Helper()
	j := job{m: api.Manifest{Stage: done.Stage, Pass: done.Pass}}
	for i, f := range stage.Files(done) {
		f, s := listed(t, f.Name, f.Size, 3+2*i)
		j.m = manifest.With(j.m, f)
		name := f.Name
		if i < onWay {
			name += ".out"
		}
		j.files = append(j.files, has{name, s, ""})
	}
	s, ok := manifest.Put(j.m)
	if !ok {
		t.Fatalf("%v may not be", j.m)
	}
	j.files = append(j.files, has{"manifest", s, ""})
	return j
}

// jobs are of all stages, of at most five rounds.
func jobs(t *testing.T) []job {
	t.Helper()
	var l []job
	for _, done := range []stage.Step{{Stage: 1}, {Stage: 2}, {Stage: 3}, {Stage: 4, Pass: 1}, {Stage: 4, Pass: 4}, {Stage: 5, Pass: 1}, {Stage: 5, Pass: 5}, {Stage: 6}, {Stage: 7}} {
		l = append(l, made(t, done, 0))
	}
	return append(l, made(t, stage.Step{Stage: 7}, 1), made(t, stage.Step{Stage: 7}, 2))
}

// rest are files that no job keeps, whatever is done, and which stand beside those of a job.
func rest() []has {
	return []has{{"manifest.new", "half", "a manifest"}, {"a", "", ""}, {"graph.7", "x", ""}, {"cells.r.0", "y", "z"}, {"zz.top", "", "w"}, {"inputs", "", ""}, {"conf.out", "v", ""}, {"input.out", "", ""}}
}

// given are the files that a job is given, some bytes of which wait.
func given() []has { return []has{{"input", "vec", "tors"}, {"conf", "k", "1"}} }

// plus answers the files of all lists.
func plus(l ...[]has) []has { return slices.Concat(l...) }

// TestStart: P22.2, P22.3, of all stages: the manifest, and just what is kept is there, as it was; done again, it says the same.
func TestStart(t *testing.T) {
	for _, j := range jobs(t) {
		what := fmt.Sprintf("%v", j.m)
		wanted := disk(t, plus(given(), j.files)...)
		d := disk(t, plus(rest()[:4], given(), j.files, rest()[4:])...)
		for range 3 {
			starts(t, "P22.2", what, d, 5, j.m, api.OK)
			for _, stay := range []int{0, 1, 9} {
				if a, b := now(d, stay), now(wanted, stay); !maps.Equal(a, b) {
					t.Fatalf("P22.3: %s: behind Start, files %q, want %q", what, a, b)
				}
			}
		}
	}
}

// TestStartKeeps: P22.3, what is there behind it is just what Keeps tells, as far as it was there.
func TestStartKeeps(t *testing.T) {
	for _, j := range append(jobs(t), job{}) {
		for _, begin := range [][]has{nil, given()[:1], given()[1:], given()} {
			d := disk(t, plus(rest(), begin, j.files)...)
			there := names(d)
			starts(t, "P22.2", fmt.Sprintf("%v", j.m), d, 5, j.m, api.OK)
			kept := Keeps(j.m, there)
			wanted := slices.DeleteFunc(there, func(name string) bool { return !slices.Contains(kept, name) })
			if got := names(d); !slices.Equal(got, wanted) {
				t.Errorf("P22.3: behind Start of %v, files %q, want %q", j.m, got, wanted)
			}
		}
	}
}

// TestStartNone: P22.2, without a manifest: a zero one, whatever rounds are asked for; input and conf are left.
func TestStartNone(t *testing.T) {
	for _, rounds := range []int{5, 1, 64, 0, 65, -1, math.MaxInt, math.MinInt} {
		starts(t, "P22.2", "of an empty disk", disk(t), rounds, api.Manifest{}, api.OK)
		d := disk(t, plus(rest(), given(), []has{{"pairs", "p", ""}, {"graph", "g", ""}, {"pairs.out", "p", ""}, {"cells", "c", ""}})...)
		starts(t, "P22.2", "without a manifest", d, rounds, api.Manifest{}, api.OK)
		if got, wanted := now(d, 9), now(disk(t, given()...), 9); !maps.Equal(got, wanted) {
			t.Errorf("P22.3: without a manifest, files %q, want %q", got, wanted)
		}
	}
}

// TestStartUnfit: P22.2, a manifest that does not fit, and what is none: ErrCorrupt, and nothing is removed.
func TestStartUnfit(t *testing.T) {
	corrupt := func(what string, rounds int, files []has) {
		t.Helper()
		d := disk(t, plus(given(), rest(), files)...)
		wanted := d.Clone()
		starts(t, "P22.2", what, d, rounds, api.Manifest{}, api.ErrCorrupt)
		wanted.Size("manifest")
		wanted.Read("manifest", 0, 0)
		alike(t, "P22.2: "+what, d, wanted)
	}
	for _, j := range jobs(t) {
		for _, rounds := range []int{0, 65, -1, math.MaxInt, math.MinInt} {
			corrupt("rounds that may not be", rounds, j.files)
		}
		if p := j.m.Pass; p > 0 {
			corrupt("a pass above the rounds", p-1, j.files)
		}
		last := len(j.files) - 1 // the manifest's
		for _, x := range []api.Manifest{
			{Stage: j.m.Stage, Pass: j.m.Pass},
			{Stage: j.m.Stage, Pass: j.m.Pass + 6, Files: j.m.Files},
			{Stage: j.m.Stage%7 + 1, Pass: j.m.Pass, Files: j.m.Files},
			{Stage: j.m.Stage, Pass: j.m.Pass, Files: append(slices.Clone(j.m.Files), api.File{Name: "zz", Size: 1})},
			{Stage: j.m.Stage, Pass: j.m.Pass, Files: append([]api.File{{Name: "a", Size: 12}}, j.m.Files[1:]...)},
			{Stage: j.m.Stage, Pass: j.m.Pass, Files: append([]api.File{{Name: j.m.Files[0].Name, Size: 9}}, j.m.Files[1:]...)},
		} {
			if j.m.Stage == 4 && x.Stage == 5 {
				continue // the files of a round are those of the last one too
			}
			s, ok := manifest.Put(x)
			if !ok {
				t.Fatalf("%v may not be", x)
			}
			corrupt(fmt.Sprintf("the manifest %v", x), 5, append(slices.Clone(j.files[:last]), has{"manifest", s, ""}))
		}
		for _, s := range []string{"", "MAN1", j.files[last].kept + "\x00", j.files[last].kept[1:]} {
			corrupt(fmt.Sprintf("the manifest's bytes %q", s), 5, append(slices.Clone(j.files[:last]), has{"manifest", s, ""}))
		}
	}
}

// TestStartFallen: P22.2, a listed file that is not there, or does not stand: ErrCorrupt, behind what is kept is all there is.
func TestStartFallen(t *testing.T) {
	for _, j := range jobs(t) {
		for i := range len(j.files) - 1 {
			name, s := j.files[i].name, j.files[i].kept
			end := strings.Repeat("\x00", 17)
			for _, x := range [][]has{nil, {{name, "", ""}}, {{name, s[:len(s)-1], ""}}, {{name, s + "x", ""}}, {{name, s[:len(s)-17] + end, ""}}} {
				files := slices.Concat(j.files[:i], x, j.files[i+1:])
				d := disk(t, plus(rest(), given(), files)...)
				for range 2 {
					starts(t, "P22.2", fmt.Sprintf("%v, with %q for %s", j.m, x, name), d, 5, api.Manifest{}, api.ErrCorrupt)
					if got, wanted := now(d, 9), now(disk(t, plus(given(), files)...), 9); !maps.Equal(got, wanted) {
						t.Fatalf("P22.3: %v, with %q for %s: files %q, want %q", j.m, x, name, got, wanted)
					}
				}
			}
		}
	}
}

// TestStartDoneTwice: P22.2, of Done, where a file is there both under its name and on the way: that on the way is gone.
func TestStartDoneTwice(t *testing.T) {
	j := made(t, stage.Step{Stage: 7}, 0)
	d := disk(t, plus(j.files, []has{{"pairs.out", "bytes", ""}, {"graph.out", j.files[1].kept, ""}})...)
	starts(t, "P22.2", "files twice", d, 1, j.m, api.OK)
	if got, wanted := names(d), []string{"graph", "manifest", "pairs"}; !slices.Equal(got, wanted) {
		t.Errorf("P22.3: files %q, want %q", got, wanted)
	}
	torn := j.files[0].kept[1:]
	d = disk(t, plus([]has{{"pairs", torn, ""}, {"pairs.out", j.files[0].kept, ""}}, j.files[1:])...)
	starts(t, "P22.2", "torn under its name", d, 1, api.Manifest{}, api.ErrCorrupt)
	d = disk(t, plus([]has{{"pairs.out", j.files[0].kept, ""}}, made(t, stage.Step{Stage: 6}, 0).files[1:])...)
	starts(t, "P22.2", "of Mirror, all on the way", d, 1, made(t, stage.Step{Stage: 6}, 0).m, api.OK)
}

// TestStartTurned: P22.2, bits that are turned ahead of a file's end are not seen: files are not read to their end.
func TestStartTurned(t *testing.T) {
	for _, j := range jobs(t) {
		d := disk(t, j.files...)
		for _, f := range j.files[:len(j.files)-1] {
			d.Turn(f.name, 8*20, 7)
		}
		starts(t, "P22.2", "turned", d, 5, j.m, api.OK)
	}
}

// startTold does to a disk, call by call, what the chapter says of Start.
func startTold(d *fs.Disk, rounds int) (api.Manifest, api.Errno) {
	none := api.Manifest{}
	m := none
	n, e := d.Size("manifest")
	if e != api.OK && e != api.ErrNone {
		return none, e
	}
	if e == api.OK {
		s, e := d.Read("manifest", 0, n)
		if e != api.OK {
			return none, e
		}
		ok := false
		if m, ok = manifest.Get(s); !ok || !stage.Fits(m, rounds) {
			return none, api.ErrCorrupt
		}
	}
	there, e := d.List()
	if e != api.OK {
		return none, e
	}
	keep := []string{"input", "conf", "manifest"}
	for _, f := range whereTold(m, there) {
		keep = append(keep, f.Name)
	}
	if _, e := sweepTold(d, keep); e != api.OK {
		return none, e
	}
	for _, f := range whereTold(m, there) {
		ok, e := standsTold(d, f)
		if e != api.OK {
			return none, e
		}
		if !ok {
			return none, api.ErrCorrupt
		}
	}
	return m, api.OK
}

// TestStartCalls: P22.2, behind a fall at any call: the same calls, the error of the one that fell; then, once more, it comes to what it had come to.
func TestStartCalls(t *testing.T) {
	l := append(jobs(t), job{}, job{files: []has{{"manifest", "none", ""}}})
	l = append(l, job{files: append(jobs(t)[8].files[1:], has{"pairs", "no pairs", ""})}, job{files: jobs(t)[2].files[1:]})
	seen := map[api.Errno]int{}
	for _, j := range l {
		for _, rounds := range []int{5, 1} {
			whole := disk(t, plus(rest(), given(), j.files)...)
			calm := whole.Clone()
			m, e := Start(calm, rounds)
			for n := -1; n <= 22; n++ {
				got, wanted := whole.Clone(), whole.Clone()
				got.Arm(n)
				wanted.Arm(n)
				what := fmt.Sprintf("%q, %d rounds, armed with %d", j.files, rounds, n)
				mTold, eTold := startTold(wanted, rounds)
				starts(t, "P22.2", what, got, rounds, mTold, eTold)
				alike(t, "P22.2: "+what, got, wanted)
				seen[eTold]++
				got.Rise(slices.Repeat([]int{9}, api.MaxFiles))
				starts(t, "P22.3", what+", and again", got, rounds, m, e)
				if a, b := now(got, 0), now(calm, 9); !maps.Equal(a, b) {
					t.Fatalf("P22.3: %s, and again: files %q, want %q", what, a, b)
				}
			}
		}
	}
	for _, e := range []api.Errno{api.OK, api.ErrDown, api.ErrCorrupt} { // or the walk shows little
		if seen[e] == 0 {
			t.Errorf("no Start told %d: %v", e, seen)
		}
	}
}

// TestStartOwn: the manifest that is told is memory of its own.
func TestStartOwn(t *testing.T) {
	j := made(t, stage.Step{Stage: 4, Pass: 2}, 0)
	d := disk(t, j.files...)
	m, _ := Start(d, 5)
	m.Files[0].Name = "other"
	starts(t, "0.5", "told again", d, 5, j.m, api.OK)
}

// TestStartSteps: P22.3, of what comes next, step by step: whatever an earlier step left is gone.
func TestStartSteps(t *testing.T) {
	d := disk(t, given()...)
	done := stage.Step{}
	for more := true; more; {
		starts(t, "P22.2", fmt.Sprint(done), d, 3, loaded(t, d), api.OK)
		if done, more = stage.Next(done, 3, false); !more {
			break
		}
		j := made(t, done, 0)
		for _, f := range j.files {
			d.Remove(f.name)
			d.Create(f.name)
			d.Append(f.name, f.kept)
		}
		starts(t, "P22.2", fmt.Sprint(done), d, 3, j.m, api.OK)
		wanted := []string{"conf", "input"}
		for _, f := range j.files {
			wanted = append(wanted, f.name)
		}
		if slices.Sort(wanted); !slices.Equal(names(d), wanted) {
			t.Fatalf("P22.3: behind %v, files %q, want %q", done, names(d), wanted)
		}
	}
}

// loaded answers the manifest of a disk: a zero one, if there is none.
func loaded(t *testing.T, d *fs.Disk) api.Manifest {
	t.Helper()
	s, ok := now(d, api.MaxDisk)["manifest"]
	m, right := manifest.Get(s)
	if ok != right {
		t.Fatalf("the manifest's file has %q", s)
	}
	return m
}
