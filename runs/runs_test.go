package runs

import (
	"math"
	"slices"
	"strconv"
	"strings"
	"testing"

	"chainman/api"
	"chainman/budget"
	"chainman/frame"
	"chainman/fs"
	"chainman/recfile"
)

func disk(t *testing.T, room int) *fs.Disk {
	t.Helper()
	d, e := fs.New(room)
	if e != api.OK {
		t.Fatalf("a disk of %d: error %d", room, e)
	}
	return d
}

// with answers a disk of that room that has a file, all of it kept.
func with(t *testing.T, room int, name, bytes string) *fs.Disk {
	t.Helper()
	d := disk(t, room)
	lay(t, d, name, bytes)
	return d
}

// lay lets a disk have one file more, all of it kept.
func lay(t *testing.T, d *fs.Disk, name, bytes string) {
	t.Helper()
	for _, e := range []api.Errno{d.Create(name), d.Append(name, bytes), d.Sync(name)} {
		if e != api.OK {
			t.Fatalf("the file %s: error %d", name, e)
		}
	}
}

// after answers the disk's files and their bytes behind a fall of which nothing stays that waited; the disk stays as it was.
func after(d *fs.Disk) map[string]string {
	c := d.Clone()
	c.Rise(nil)
	names, _ := c.List()
	all := map[string]string{}
	for _, name := range names {
		n, _ := c.Size(name)
		all[name], _ = c.Read(name, 0, n)
	}
	return all
}

// has fails the test, if other files, or other bytes of them, are kept.
func has(t *testing.T, promise string, d *fs.Disk, wanted map[string]string) {
	t.Helper()
	got := after(d)
	for name, bytes := range wanted {
		if s, ok := got[name]; !ok || s != bytes {
			t.Errorf("%s: %s has %x, %v, want %x", promise, name, s, ok, bytes)
		}
	}
	if len(got) != len(wanted) {
		t.Errorf("%s: %d files, want %d", promise, len(got), len(wanted))
	}
}

func file(size int, l []string) string {
	s, _ := recfile.Lay(size, l)
	return s
}

// dice gives numbers that look like no others, always the same ones of a seed.
type dice uint32

func (x *dice) below(n int) int {
	*x = *x*1664525 + 1013904223
	return int(uint32(*x)>>8) % n
}

// rolled answers so many records of a size, of a few octets, so that some are alike.
func rolled(x *dice, size, n, octets int) []string {
	var l []string
	for range n {
		record := make([]byte, size)
		for i := range record {
			record[i] = byte(x.below(octets) * 255 / max(octets-1, 1))
		}
		l = append(l, string(record))
	}
	return l
}

// into puts a record behind those that are not above it, or not at all, if one is like it.
func into(l []string, record string, unique bool) []string {
	for at, other := range l {
		if unique && other == record {
			return l
		}
		if other > record {
			return slices.Insert(l, at, record)
		}
	}
	return append(l, record)
}

// parted answers the records' runs, as the document's words tell of them.
func parted(l []string, m int, unique bool) [][]string {
	var all [][]string
	for i, record := range l {
		if i%m == 0 {
			all = append(all, nil)
		}
		last := len(all) - 1
		all[last] = into(all[last], record, unique)
	}
	return all
}

// files answers what the disk has to have behind Form: the file of the records, and their runs.
func files(in, out string, size, m int, l []string, unique bool) map[string]string {
	all := map[string]string{in: file(size, l)}
	for i, run := range parted(l, m, unique) {
		all[out+"."+strconv.Itoa(i)] = file(size, run)
	}
	return all
}

// forms fails the test, if Form does anything but form the records' runs.
func forms(t *testing.T, size, m int, l []string, unique bool) {
	t.Helper()
	d, b := with(t, api.MaxDisk, "in", file(size, l)), budget.New(m+13)
	b.Take(5)
	n, e := Form(d, b, "in", "out", size, m, unique)
	if wanted := (len(l) + m - 1) / m; n != wanted || e != api.OK {
		t.Fatalf("P16.1: Form of %d records, m %d = %d, %d, want %d, %d", len(l), m, n, e, wanted, api.OK)
	}
	has(t, "P16.1", d, files("in", "out", size, m, l, unique))
	if b.Now() != 5 || b.High() > 5+m+8 {
		t.Errorf("P16.2: m %d: in memory %d, at most %d", m, b.Now(), b.High())
	}
}

// fails fails the test, if Form answers other than that error, or keeps any of the budget.
func fails(t *testing.T, what string, d *fs.Disk, b *budget.Budget, in, out string, size, m int, wanted api.Errno) {
	t.Helper()
	now := b.Now()
	for _, unique := range []bool{false, true} {
		if n, e := Form(d, b, in, out, size, m, unique); n != 0 || e != wanted {
			t.Errorf("P16.1: %s: Form = %d, %d, want 0, %d", what, n, e, wanted)
		}
		if b.Now() != now {
			t.Errorf("P16.1: %s: in memory %d, want %d", what, b.Now(), now)
		}
	}
}

// TestExample: P16.1, the chapter's, byte by byte.
func TestExample(t *testing.T) {
	d, b := with(t, 1000, "a", file(1, []string{"c", "a", "b"})), budget.New(10)
	if n, e := Form(d, b, "a", "b", 1, 2, false); n != 2 || e != api.OK {
		t.Errorf("P16.1: Form = %d, %d, want 2, %d", n, e, api.OK)
	}
	has(t, "P16.1", d, map[string]string{
		"a":   file(1, []string{"c", "a", "b"}),
		"b.0": file(1, []string{"a", "c"}),
		"b.1": file(1, []string{"b"}),
	})
	if b.Now() != 0 {
		t.Errorf("P16.1: in memory %d, want 0", b.Now())
	}
}

// TestName: P16.1, of any name and any number.
func TestName(t *testing.T) {
	for _, c := range []struct {
		name   string
		i      int
		wanted string
	}{
		{"b", 0, "b.0"}, {"b", 7, "b.7"}, {"b", 9, "b.9"}, {"b", 10, "b.10"}, {"b", 12, "b.12"}, {"b", 199, "b.199"},
		{"b", 1000, "b.1000"}, {"b", 1 << 40, "b.1099511627776"}, {"b", math.MaxInt, "b.9223372036854775807"},
		{"", 3, ".3"}, {".", 3, "..3"}, {"b.1", 2, "b.1.2"}, {"B\x00ä", 4, "B\x00ä.4"},
		{strings.Repeat("a", 30), 5, strings.Repeat("a", 30) + ".5"},
		{"b", -1, ""}, {"b", -12, ""}, {"", -1, ""}, {"b", math.MinInt, ""}, {"b", math.MinInt + 1, ""},
	} {
		if got := Name(c.name, c.i); got != c.wanted {
			t.Errorf("P16.1: Name(%q, %d) = %q, want %q", c.name, c.i, got, c.wanted)
		}
	}
}

// TestForm: P16.1, P16.2, all small counts and all m about them.
func TestForm(t *testing.T) {
	x := dice(16)
	for n := range 14 {
		for m := 1; m <= n+2; m++ {
			for _, octets := range []int{1, 2, 4, 256} {
				forms(t, 1, m, rolled(&x, 1, n, octets), false)
				forms(t, 1, m, rolled(&x, 1, n, octets), true)
				forms(t, 3, m, rolled(&x, 3, n, octets), n%2 == 0)
			}
		}
	}
}

// TestFormMany: P16.1, P16.2, more records, of any size.
func TestFormMany(t *testing.T) {
	x := dice(61)
	for round := range 60 {
		size, n := 1+x.below(64), x.below(400)
		forms(t, size, n/100+1+x.below(n+1), rolled(&x, size, n, 2+x.below(255)), round%2 == 0)
	}
	forms(t, 64, 8, rolled(&x, 64, 199*8, 256), false) // with the file of the records as many files as a disk has
	forms(t, 2, 1<<20, rolled(&x, 2, 3000, 9), true)
}

// TestFormOrder: P16.1, records are in the order of their octets, each from 0 to 255, the first one that is unlike counting.
func TestFormOrder(t *testing.T) {
	var l, back []string
	for i := range 256 {
		l = append(l, "a"+string([]byte{byte(i), byte(255 - i)}))
	}
	for i := range l {
		back = append(back, l[len(l)-1-i])
	}
	d := with(t, 5000, "in", file(3, back))
	if n, e := Form(d, budget.New(1000), "in", "out", 3, 900, true); n != 1 || e != api.OK {
		t.Errorf("P16.1: Form = %d, %d, want 1, %d", n, e, api.OK)
	}
	has(t, "P16.1", d, map[string]string{"in": file(3, back), "out.0": file(3, l)})
}

// TestFormAlike: P16.1, like ones that are in two runs stay in both; in a run there is just one, and none comes in their place.
func TestFormAlike(t *testing.T) {
	l := strings.Split("b a b a b a a a b b", " ")
	for _, c := range []struct {
		unique bool
		runs   []string
	}{
		{true, []string{"a b", "a b", "b"}},
		{false, []string{"a a b b", "a a a b", "b b"}},
	} {
		d := with(t, 1000, "in", file(1, l))
		if n, e := Form(d, budget.New(12), "in", "out", 1, 4, c.unique); n != 3 || e != api.OK {
			t.Errorf("P16.1: Form = %d, %d, want 3, %d", n, e, api.OK)
		}
		wanted := map[string]string{"in": file(1, l)}
		for i, run := range c.runs {
			wanted["out."+strconv.Itoa(i)] = file(1, strings.Split(run, " "))
		}
		has(t, "P16.1", d, wanted)
	}
}

// TestFormNone: P16.1, of no records there are no runs.
func TestFormNone(t *testing.T) {
	d, b := with(t, 100, "in", file(9, nil)), budget.New(5)
	if n, e := Form(d, b, "in", "out", 9, 1, true); n != 0 || e != api.OK {
		t.Errorf("P16.1: Form = %d, %d, want 0, %d", n, e, api.OK)
	}
	has(t, "P16.1", d, map[string]string{"in": file(9, nil)})
	if b.Now() != 0 {
		t.Errorf("P16.1: in memory %d, want 0", b.Now())
	}
}

// TestFormNoM: P16.1, an m below 1 is told first, and nothing is done.
func TestFormNoM(t *testing.T) {
	for _, m := range []int{0, -1, -2, -8, math.MinInt, math.MinInt + 1} {
		d, b := with(t, 100, "in", file(1, []string{"a"})), budget.New(20)
		calls := d.Calls()
		fails(t, "no m", d, b, "in", "out", 1, m, api.ErrArg)
		fails(t, "no m, no size", d, b, "in", "out", 0, m, api.ErrArg)
		fails(t, "no m, no file", d, b, "none", "out", 1, m, api.ErrArg)
		fails(t, "no m, no room", d, budget.New(0), "in", "out", 1, m, api.ErrArg)
		if d.Calls() != calls || b.High() != 0 {
			t.Errorf("P16.1: m %d: calls %d, at most %d, want %d, 0", m, d.Calls(), b.High(), calls)
		}
	}
}

// TestFormNoBudget: P16.1, the error of taking m is told ahead of others, and no call is made.
func TestFormNoBudget(t *testing.T) {
	for _, c := range []struct{ bound, take, m int }{
		{0, 0, 1}, {9, 0, 10}, {9, 2, 8}, {9, 9, 1}, {100, 0, math.MaxInt}, {100, 50, 1 << 40},
	} {
		d, b := with(t, 100, "in", file(1, []string{"a"})), budget.New(c.bound)
		b.Take(c.take)
		calls := d.Calls()
		fails(t, "no room", d, b, "in", "out", 1, c.m, api.ErrBudget)
		fails(t, "no room, no size", d, b, "in", "out", 65, c.m, api.ErrBudget)
		fails(t, "no room, no file", d, b, "none", "out", 1, c.m, api.ErrBudget)
		if d.Calls() != calls || b.High() != c.take {
			t.Errorf("P16.1: m %d: calls %d, at most %d, want %d, %d", c.m, d.Calls(), b.High(), calls, c.take)
		}
	}
}

// TestFormBudgetOfOthers: P16.1, m and the reader's and the writer's four have to fit.
func TestFormBudgetOfOthers(t *testing.T) {
	l := rolled(new(dice), 2, 10, 256)
	for m := 1; m <= 10; m++ {
		for more := range 8 {
			d := with(t, 1000, "in", file(2, l))
			fails(t, "no room for those that read and write", d, budget.New(m+more), "in", "out", 2, m, api.ErrBudget)
			has(t, "P16.1", d, map[string]string{"in": file(2, l)})
		}
		d, b := with(t, 1000, "in", file(2, l)), budget.New(m+8)
		if n, e := Form(d, b, "in", "out", 2, m, false); n != (10+m-1)/m || e != api.OK {
			t.Errorf("P16.1: Form of m %d = %d, %d", m, n, e)
		}
		if b.Now() != 0 || b.High() != m+8 {
			t.Errorf("P16.2: in memory %d, at most %d, want 0, %d", b.Now(), b.High(), m+8)
		}
	}
}

// TestFormNotMade: no call panics, whatever it is given.
func TestFormNotMade(t *testing.T) {
	d, b := with(t, 100, "in", file(1, []string{"a"})), budget.New(20)
	fails(t, "no disk", nil, b, "in", "out", 1, 2, api.ErrArg)
	fails(t, "a disk that New did not give", &fs.Disk{}, b, "in", "out", 1, 2, api.ErrArg)
	fails(t, "no budget", d, nil, "in", "out", 1, 2, api.ErrArg)
	fails(t, "a budget that New did not give", d, &budget.Budget{}, "in", "out", 1, 2, api.ErrArg)
}

// TestFormNotRead: P16.1, the reader's errors; no run is there.
func TestFormNotRead(t *testing.T) {
	whole := file(2, []string{"ab", "cd"})
	for _, c := range []struct {
		bytes, in string
		size      int
		wanted    api.Errno
	}{
		{whole, "in", 0, api.ErrArg},
		{whole, "in", 65, api.ErrArg},
		{whole, "in", -1, api.ErrArg},
		{whole, "in", 1, api.ErrCorrupt},
		{whole, "in", 3, api.ErrCorrupt},
		{whole, "none", 2, api.ErrNone},
		{whole, "IN", 2, api.ErrArg},
		{whole, "", 2, api.ErrArg},
		{"", "in", 2, api.ErrCorrupt},
		{whole[:10], "in", 2, api.ErrCorrupt},
		{whole[:11], "in", 2, api.ErrCorrupt},
		{whole[:len(whole)-1], "in", 2, api.ErrCorrupt},
		{whole + "a", "in", 2, api.ErrCorrupt},
	} {
		d, b := with(t, 1000, "in", c.bytes), budget.New(20)
		fails(t, c.in, d, b, c.in, "out", c.size, 5, c.wanted)
		has(t, "P16.1", d, map[string]string{"in": c.bytes})
	}
}

// TestFormTurned: P16.1, wherever a bit of the file is turned, and whatever m is.
func TestFormTurned(t *testing.T) {
	whole := file(2, rolled(new(dice), 2, 9, 256))
	for at := range 8 * len(whole) {
		for _, m := range []int{1, 4, 5, 9, 10} {
			d := with(t, 5000, "in", whole)
			d.Turn("in", at, 1)
			b := budget.New(30)
			if n, e := Form(d, b, "in", "out", 2, m, false); n != 0 || e != api.ErrCorrupt {
				t.Errorf("P16.1: bit %d is turned, m %d: Form = %d, %d, want 0, %d", at, m, n, e, api.ErrCorrupt)
			}
			if b.Now() != 0 {
				t.Errorf("P16.1: bit %d is turned, m %d: in memory %d", at, m, b.Now())
			}
		}
	}
}

// TestFormNotWritten: P16.1, the writer's errors.
func TestFormNotWritten(t *testing.T) {
	l := strings.Split("h g f e d c b a", " ")
	there := with(t, 1000, "in", file(1, l))
	lay(t, there, "out.1", "abc")
	if n, e := Form(there, budget.New(20), "in", "out", 1, 3, false); n != 0 || e != api.ErrThere {
		t.Errorf("P16.1: Form onto a file that is there = %d, %d, want 0, %d", n, e, api.ErrThere)
	}
	has(t, "P16.1", there, map[string]string{"in": file(1, l), "out.0": file(1, []string{"f", "g", "h"}), "out.1": "abc"})
	itself := with(t, 1000, "out.0", file(1, l))
	fails(t, "onto itself", itself, budget.New(20), "out.0", "out", 1, 3, api.ErrThere)
	has(t, "P16.1", itself, map[string]string{"out.0": file(1, l)})
	for _, out := range []string{"OUT", "a b", strings.Repeat("a", 23), strings.Repeat("a", 1000)} {
		d := with(t, 1000, "in", file(1, l))
		fails(t, "no name", d, budget.New(20), "in", out, 1, 3, api.ErrArg)
		has(t, "P16.1", d, map[string]string{"in": file(1, l)})
	}
}

// TestFormNames: P16.1, the name of a run that is too long is told when its turn comes; all names that are right do.
func TestFormNames(t *testing.T) {
	l := rolled(new(dice), 1, 11, 256)
	d, b := with(t, 1000, "in", file(1, l)), budget.New(20)
	if n, e := Form(d, b, "in", strings.Repeat("a", 22), 1, 1, false); n != 0 || e != api.ErrArg || b.Now() != 0 {
		t.Errorf("P16.1: Form of the name aa.10 that is too long = %d, %d, want 0, %d", n, e, api.ErrArg)
	}
	if all := after(d); len(all) != 11 {
		t.Errorf("P16.1: %d files, want 11", len(all))
	}
	for _, out := range []string{"", ".", strings.Repeat("a", 21), "in"} {
		d := with(t, 1000, "in", file(1, l))
		if n, e := Form(d, budget.New(20), "in", out, 1, 1, false); n != 11 || e != api.OK {
			t.Errorf("P16.1: Form of the name %q = %d, %d, want 11, %d", out, n, e, api.OK)
		}
		has(t, "P16.1", d, files("in", out, 1, 1, l, false))
	}
}

// TestFormFull: P16.1, a disk that is full on the way, or has no more files.
func TestFormFull(t *testing.T) {
	l := rolled(new(dice), 3, 11, 256)
	wanted := files("in", "out", 3, 5, l, true)
	need := 0
	for _, bytes := range wanted {
		need += len(bytes)
	}
	for room := len(file(3, l)); room < need; room++ {
		d, b := with(t, room, "in", file(3, l)), budget.New(20)
		if n, e := Form(d, b, "in", "out", 3, 5, true); n != 0 || e != api.ErrFull || b.Now() != 0 {
			t.Errorf("P16.1: room %d: Form = %d, %d, in memory %d, want 0, %d, 0", room, n, e, b.Now(), api.ErrFull)
		}
	}
	d := with(t, need, "in", file(3, l))
	if n, e := Form(d, budget.New(20), "in", "out", 3, 5, true); n != 3 || e != api.OK {
		t.Errorf("P16.1: Form into just the room = %d, %d, want 3, %d", n, e, api.OK)
	}
	has(t, "P16.1", d, wanted)
	many := with(t, 1<<20, "in", file(3, rolled(new(dice), 3, 200, 256)))
	if n, e := Form(many, budget.New(20), "in", "out", 3, 1, true); n != 0 || e != api.ErrFull {
		t.Errorf("P16.1: Form of 200 runs = %d, %d, want 0, %d", n, e, api.ErrFull)
	}
}

// TestFormFalls: P16.1, wherever the machine falls, that is told, and all is given back.
func TestFormFalls(t *testing.T) {
	l := rolled(new(dice), 3, 11, 256)
	for n := 0; ; n++ {
		d, b := with(t, 5000, "in", file(3, l)), budget.New(20)
		b.Take(3)
		calls := d.Calls()
		d.Arm(n)
		runs, e := Form(d, b, "in", "out", 3, 5, false)
		if b.Now() != 3 {
			t.Errorf("P16.1: a fall at call %d: in memory %d, want 3", n, b.Now())
		}
		if e == api.OK {
			if made := d.Calls() - calls; runs != 3 || n != made {
				t.Errorf("P16.1: %d runs, %d calls, want 3, %d", runs, made, n)
			}
			return
		}
		if made := d.Calls() - calls; runs != 0 || e != api.ErrDown || made != n+1 {
			t.Errorf("P16.1: a fall at call %d: %d, %d, %d calls, want 0, %d, %d", n, runs, e, made, api.ErrDown, n+1)
		}
	}
}

// TestFormReadsNoMore: P16.2, ahead of a run just its own records were read, and those of the block that the last one is in.
func TestFormReadsNoMore(t *testing.T) {
	l := rolled(new(dice), 2, 40, 256)
	for m := 1; m <= 20; m++ {
		d := with(t, 5000, "in", file(2, l))
		d.Turn("in", 8*(recfile.Head+(m+3)/4*frame.Room(2)), 1) // the block behind
		n, e := Form(d, budget.New(m+8), "in", "out", 2, m, false)
		if n != 0 || e != api.ErrCorrupt {
			t.Errorf("P16.1: Form = %d, %d, want 0, %d", n, e, api.ErrCorrupt)
		}
		if got, wanted := after(d)["out.0"], file(2, parted(l, m, false)[0]); got != wanted {
			t.Errorf("P16.2: the first run of m %d has %x, want %x", m, got, wanted)
		}
	}
}
