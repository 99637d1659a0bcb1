package fs

import (
	"math"
	"slices"
	"strconv"
	"strings"
	"testing"
	"unsafe"

	"chainman/api"
)

// made answers a disk of that room.
func made(t *testing.T, room int) *Disk {
	t.Helper()
	d, e := New(room)
	if d == nil || e != api.OK {
		t.Fatalf("P4.1: New(%d) = %v, %d", room, d, e)
	}
	return d
}

// want fails the test, if a call answers another error.
func want(t *testing.T, what string, got, wanted api.Errno) {
	t.Helper()
	if got != wanted {
		t.Errorf("%s: error %d, want %d", what, got, wanted)
	}
}

// filled answers a disk with a file, of which some bytes are kept, and some wait.
func filled(t *testing.T, name, kept, waits string) *Disk {
	t.Helper()
	d := made(t, 1000)
	add(t, d, name, kept, waits)
	return d
}

// add puts a file on a disk, of which some bytes are kept, and some wait.
func add(t *testing.T, d *Disk, name, kept, waits string) {
	t.Helper()
	want(t, "P4.2: Create "+name, d.Create(name), api.OK)
	want(t, "P4.2: Append "+name, d.Append(name, kept), api.OK)
	want(t, "P4.2: Sync "+name, d.Sync(name), api.OK)
	want(t, "P4.2: Append "+name, d.Append(name, waits), api.OK)
}

// names answers which files there are; the disk's calls stay as they were.
func names(t *testing.T, d *Disk) []string {
	t.Helper()
	c := d.Clone()
	c.Rise(nil)
	l, e := c.List()
	want(t, "P4.2: List", e, api.OK)
	return l
}

// has fails the test, if the file's bytes are others; the disk stays as it was.
func has(t *testing.T, promise string, d *Disk, name, bytes string) {
	t.Helper()
	c := d.Clone()
	if c.down {
		t.Fatalf("%s: the machine is down", promise)
	}
	c.Arm(-1)
	n, e := c.Size(name)
	want(t, promise+": Size "+name, e, api.OK)
	if n != len(bytes) {
		t.Errorf("%s: %s has %d bytes, want %d", promise, name, n, len(bytes))
	}
	got, e := c.Read(name, 0, n)
	want(t, promise+": Read "+name, e, api.OK)
	if got != bytes {
		t.Errorf("%s: %s has %q, want %q", promise, name, got, bytes)
	}
}

// gone fails the test, if there is such a file; the disk stays as it was.
func gone(t *testing.T, promise string, d *Disk, name string) {
	t.Helper()
	if slices.Contains(names(t, d), name) {
		t.Errorf("%s: %s is there", promise, name)
	}
}

// after answers a copy of the disk behind a fall.
func after(d *Disk, keep ...int) *Disk {
	c := d.Clone()
	c.Arm(0)
	c.List()
	c.Rise(keep)
	return c
}

// wrong are texts that are no names.
func wrong() []string {
	return []string{"", " ", "A", "Z", "a b", "a/b", "a-b", "a_b", "manifest new", "ä", "\x00", "a\x00", "\xff", "`", "{", "/", ":", "-", "aA", "é",
		strings.Repeat("a", 25), strings.Repeat(".", 200), strings.Repeat("a", 24) + "\x00", "\na", "a\n", "ａ", "٣"}
}

// TestNew: P4.1, rooms that a disk may have.
func TestNew(t *testing.T) {
	for _, room := range []int{0, 1, 100, 1<<24 - 1, 1 << 24} {
		d := made(t, room)
		if l := names(t, d); len(l) != 0 || d.Calls() != 0 || d.Used() != 0 {
			t.Errorf("P4.1: a new disk has files %q, calls %d, bytes %d", l, d.Calls(), d.Used())
		}
	}
	for _, room := range []int{-1, 1<<24 + 1, 1 << 32, 1<<32 + 5, math.MaxInt, math.MinInt} {
		if d, e := New(room); d != nil || e != api.ErrArg {
			t.Errorf("P4.1: New(%d) = %v, %d, want none, %d", room, d, e, api.ErrArg)
		}
	}
}

// TestNewOwn: P4.1, disks have nothing of one another.
func TestNewOwn(t *testing.T) {
	one, other := made(t, 10), made(t, 10)
	want(t, "P4.1: Create", one.Create("a"), api.OK)
	gone(t, "P4.1", other, "a")
	if other.Calls() != 0 {
		t.Errorf("P4.1: calls of another disk: %d", other.Calls())
	}
}

// TestRight: P4.1, names, and what is none.
func TestRight(t *testing.T) {
	for _, name := range []string{"a", "z", "0", "9", ".", "..", "input", "manifest.new", "graph.0", "m", "5", strings.Repeat("a", 24), strings.Repeat(".", 24)} {
		if !Right(name) {
			t.Errorf("P4.1: %q is no name", name)
		}
	}
	for _, name := range wrong() {
		if Right(name) {
			t.Errorf("P4.1: %q is a name", name)
		}
	}
}

// TestRightLetters: P4.1, each byte, alone and among others.
func TestRightLetters(t *testing.T) {
	letters := "abcdefghijklmnopqrstuvwxyz0123456789."
	for b := range 256 {
		one := string([]byte{byte(b)})
		may := strings.Contains(letters, one)
		for _, name := range []string{one, one + "x", "x" + one, "x" + one + "x"} {
			if Right(name) != may {
				t.Errorf("P4.1: Right(%q) = %v", name, !may)
			}
		}
	}
	for n := range 300 {
		if Right(strings.Repeat("q", n)) != (1 <= n && n <= 24) {
			t.Errorf("P4.1: Right of %d letters", n)
		}
	}
}

// TestCreate: P4.2, an empty file, and one that is there.
func TestCreate(t *testing.T) {
	d := made(t, 10)
	want(t, "P4.2: Create a", d.Create("a"), api.OK)
	has(t, "P4.2", d, "a", "")
	want(t, "P4.2: Append a", d.Append("a", "xyz"), api.OK)
	want(t, "P4.2: Create a again", d.Create("a"), api.ErrThere)
	has(t, "P4.2", d, "a", "xyz")
	has(t, "P4.2", after(d), "a", "")
}

// TestCreateKept: P4.2, all of an empty file is kept: it is there behind a fall.
func TestCreateKept(t *testing.T) {
	d := made(t, 0)
	want(t, "P4.2: Create a", d.Create("a"), api.OK)
	has(t, "P4.2", after(d), "a", "")
}

// TestCreateFull: P4.2, two hundred files, however many bytes they have.
func TestCreateFull(t *testing.T) {
	d := made(t, 10)
	for i := range 200 {
		want(t, "P4.2: Create", d.Create(strconv.Itoa(i)), api.OK)
	}
	want(t, "P4.2: Create of one more", d.Create("more"), api.ErrFull)
	want(t, "P4.2: Create of one that is there", d.Create("7"), api.ErrThere)
	if l := names(t, d); len(l) != 200 {
		t.Errorf("P4.2: %d files", len(l))
	}
	want(t, "P4.2: Rename", d.Rename("7", "more"), api.OK)
	want(t, "P4.2: Create of one more", d.Create("7"), api.ErrFull)
	want(t, "P4.2: Remove", d.Remove("8"), api.OK)
	want(t, "P4.2: Create", d.Create("7"), api.OK)
	want(t, "P4.2: Create of one more", d.Create("8"), api.ErrFull)
}

// TestAppend: P4.2, bytes behind the file's, which wait.
func TestAppend(t *testing.T) {
	d := made(t, 100)
	want(t, "P4.2: Append of none such", d.Append("a", "x"), api.ErrNone)
	want(t, "P4.2: Create", d.Create("a"), api.OK)
	all := ""
	for _, s := range []string{"xyz", "", "\x00\xff\x80", "ü", strings.Repeat("u", 50)} {
		want(t, "P4.2: Append", d.Append("a", s), api.OK)
		all += s
		has(t, "P4.2", d, "a", all)
		has(t, "P4.2", after(d), "a", "")
		has(t, "P4.2", after(d, len(all)), "a", all)
	}
}

// TestAppendFull: P4.2, the room is that of all files together.
func TestAppendFull(t *testing.T) {
	d := made(t, 10)
	add(t, d, "a", "123", "4")
	add(t, d, "b", "", "12")
	want(t, "P4.2: Append of one too many", d.Append("b", "34567"), api.ErrFull)
	has(t, "P4.2", d, "b", "12")
	want(t, "P4.2: Append to the room", d.Append("b", "3456"), api.OK)
	want(t, "P4.2: Append of one more", d.Append("a", "x"), api.ErrFull)
	want(t, "P4.2: Append of none", d.Append("a", ""), api.OK)
	want(t, "P4.2: Append to none such", d.Append("c", "x"), api.ErrNone)
	has(t, "P4.2", d, "a", "1234")
	has(t, "P4.2", d, "b", "123456")
	want(t, "P4.2: Remove", d.Remove("a"), api.OK)
	want(t, "P4.2: Append to the room", d.Append("b", "7890"), api.OK)
	want(t, "P4.2: Append of one more", d.Append("b", "x"), api.ErrFull)
	c := after(d, 3)
	has(t, "P4.2", c, "b", "123")
	want(t, "P4.2: Append of what a fall made room for", c.Append("b", "4567890"), api.OK)
	want(t, "P4.2: Append of one more", c.Append("b", "x"), api.ErrFull)
	none := made(t, 0)
	want(t, "P4.2: Create", none.Create("a"), api.OK)
	want(t, "P4.2: Append of none", none.Append("a", ""), api.OK)
	want(t, "P4.2: Append", none.Append("a", "x"), api.ErrFull)
}

// TestAppendMost: P4.2, the greatest room, to the last byte.
func TestAppendMost(t *testing.T) {
	d := made(t, api.MaxDisk)
	add(t, d, "a", strings.Repeat("k", 1<<23), strings.Repeat("w", 1<<23-1))
	want(t, "P4.2: Append", d.Append("a", "xy"), api.ErrFull)
	want(t, "P4.2: Append", d.Append("a", "x"), api.OK)
	want(t, "P4.2: Append", d.Append("a", "y"), api.ErrFull)
	if d.Used() != 1<<24 {
		t.Errorf("P4.4: %d bytes", d.Used())
	}
	if s, e := d.Read("a", 1<<23-1, 2); s != "kw" || e != api.OK {
		t.Errorf("P4.2: Read = %q, %d", s, e)
	}
}

// TestRead: P4.2, pieces of what is kept and of what waits, and what is not there.
func TestRead(t *testing.T) {
	bytes := "ab\x00\xffcdef"
	d := filled(t, "a", bytes[:5], bytes[5:])
	for at := range 14 {
		for n := range 14 {
			s, e := d.Read("a", at, n)
			if at+n <= len(bytes) {
				if s != bytes[at:at+n] || e != api.OK {
					t.Errorf("P4.2: Read(a, %d, %d) = %q, %d", at, n, s, e)
				}
			} else if s != "" || e != api.ErrRange {
				t.Errorf("P4.2: Read(a, %d, %d) = %q, %d, want %d", at, n, s, e, api.ErrRange)
			}
		}
	}
	has(t, "P4.2", after(d), "a", bytes[:5])
}

// TestReadOthers: P4.2, places and numbers that there are not.
func TestReadOthers(t *testing.T) {
	d := filled(t, "a", "abc", "def")
	for _, c := range []struct {
		name  string
		at, n int
		want  api.Errno
	}{
		{"a", -1, 1, api.ErrArg},
		{"a", 1, -1, api.ErrArg},
		{"a", math.MinInt, 0, api.ErrArg},
		{"a", 0, math.MinInt, api.ErrArg},
		{"a", math.MaxInt, -1, api.ErrArg},
		{"b", -1, 0, api.ErrArg},
		{"B", 0, 0, api.ErrArg},
		{"b", 0, 0, api.ErrNone},
		{"b", 9, 9, api.ErrNone},
		{"a", 6, 0, api.OK},
		{"a", 6, 1, api.ErrRange},
		{"a", 7, 0, api.ErrRange},
		{"a", math.MaxInt, 0, api.ErrRange},
		{"a", 0, math.MaxInt, api.ErrRange},
		{"a", 1, math.MaxInt, api.ErrRange},
		{"a", math.MaxInt, math.MaxInt, api.ErrRange},
		{"a", 1 << 62, 1 << 62, api.ErrRange},
	} {
		if s, e := d.Read(c.name, c.at, c.n); s != "" || e != c.want {
			t.Errorf("P4.2: Read(%s, %d, %d) = %q, %d, want %d", c.name, c.at, c.n, s, e, c.want)
		}
	}
}

// TestSize: P4.2, with what waits.
func TestSize(t *testing.T) {
	d := filled(t, "a", "abc", "de")
	for _, c := range []struct {
		name string
		n    int
		e    api.Errno
	}{{"a", 5, api.OK}, {"b", 0, api.ErrNone}, {"A", 0, api.ErrArg}, {"", 0, api.ErrArg}} {
		if n, e := d.Size(c.name); n != c.n || e != c.e {
			t.Errorf("P4.2: Size(%q) = %d, %d, want %d, %d", c.name, n, e, c.n, c.e)
		}
	}
}

// TestSync: P4.2, nothing of the file waits, but of others.
func TestSync(t *testing.T) {
	d := filled(t, "a", "abc", "de")
	add(t, d, "b", "x", "yz")
	want(t, "P4.2: Sync of none such", d.Sync("c"), api.ErrNone)
	has(t, "P4.2", after(d), "a", "abc")
	want(t, "P4.2: Sync", d.Sync("a"), api.OK)
	has(t, "P4.2", after(d), "a", "abcde")
	has(t, "P4.2", after(d), "b", "x")
	want(t, "P4.2: Sync", d.Sync("a"), api.OK)
	want(t, "P4.2: Append", d.Append("a", "f"), api.OK)
	has(t, "P4.2", after(d), "a", "abcde")
	has(t, "P4.2", d, "a", "abcdef")
}

// TestRename: P4.2, the file, with what waits, under another name; one that had it is gone.
func TestRename(t *testing.T) {
	d := filled(t, "a", "abc", "de")
	add(t, d, "b", "uvwxyz", "12345")
	want(t, "P4.2: Rename of none such", d.Rename("c", "a"), api.ErrNone)
	has(t, "P4.2", d, "a", "abcde")
	want(t, "P4.2: Rename", d.Rename("a", "c"), api.OK)
	gone(t, "P4.2", d, "a")
	has(t, "P4.2", d, "c", "abcde")
	has(t, "P4.2", after(d, 0, 1), "c", "abcd")
	want(t, "P4.2: Rename", d.Rename("c", "b"), api.OK)
	gone(t, "P4.2", d, "c")
	has(t, "P4.2", d, "b", "abcde")
	has(t, "P4.2", after(d), "b", "abc")
	if d.Used() != 5 {
		t.Errorf("P4.4: %d bytes, want 5", d.Used())
	}
	want(t, "P4.2: Rename of what has another name", d.Rename("a", "x"), api.ErrNone)
}

// TestRenameSame: P4.2, a file that gets the name it has is there.
func TestRenameSame(t *testing.T) {
	d := filled(t, "a", "abc", "de")
	want(t, "P4.2: Rename", d.Rename("a", "a"), api.OK)
	has(t, "P4.2", d, "a", "abcde")
	has(t, "P4.2", after(d, 1), "a", "abcd")
	want(t, "P4.2: Rename of none such", d.Rename("b", "b"), api.ErrNone)
	if l := names(t, d); !slices.Equal(l, []string{"a"}) {
		t.Errorf("P4.2: files %q", l)
	}
}

// TestRemove: P4.2, the file is gone, also behind a fall.
func TestRemove(t *testing.T) {
	d := filled(t, "a", "abc", "de")
	add(t, d, "b", "x", "yz")
	want(t, "P4.2: Remove of none such", d.Remove("c"), api.ErrNone)
	want(t, "P4.2: Remove", d.Remove("a"), api.OK)
	gone(t, "P4.2", d, "a")
	gone(t, "P4.2", after(d, 9, 9), "a")
	has(t, "P4.2", d, "b", "xyz")
	want(t, "P4.2: Remove again", d.Remove("a"), api.ErrNone)
	want(t, "P4.2: Create anew", d.Create("a"), api.OK)
	has(t, "P4.2", d, "a", "")
}

// TestList: P4.2, all names, byte by byte in order.
func TestList(t *testing.T) {
	d := made(t, 0)
	if l, e := d.List(); len(l) != 0 || e != api.OK {
		t.Errorf("P4.2: List = %q, %d", l, e)
	}
	for _, name := range []string{"b", "a.b", "a", "aa", "10", "9", ".", "z", "a0", "graph.2", "graph.10", "..", "0"} {
		want(t, "P4.2: Create", d.Create(name), api.OK)
	}
	l, e := d.List()
	if !slices.Equal(l, []string{".", "..", "0", "10", "9", "a", "a.b", "a0", "aa", "b", "graph.10", "graph.2", "z"}) || e != api.OK {
		t.Errorf("P4.2: List = %q, %d", l, e)
	}
}

// calls are all calls of the file a, with b as another name, as far as they have names.
func calls(d *Disk, a, b string) map[string]func() api.Errno {
	return map[string]func() api.Errno{
		"Create": func() api.Errno { return d.Create(a) },
		"Append": func() api.Errno { return d.Append(a, "x") },
		"Read": func() api.Errno {
			s, e := d.Read(a, 0, 1)
			if s != "" && e != api.OK {
				return -1
			}
			return e
		},
		"Size": func() api.Errno {
			n, e := d.Size(a)
			if n != 0 && e != api.OK {
				return -1
			}
			return e
		},
		"Sync":   func() api.Errno { return d.Sync(a) },
		"Rename": func() api.Errno { return d.Rename(a, b) },
		"Remove": func() api.Errno { return d.Remove(a) },
	}
}

// TestErrArg: P4.2, what is no name, ahead of a machine that is down; it is no call, and none falls by it.
func TestErrArg(t *testing.T) {
	for _, name := range wrong() {
		d := filled(t, "a", "abc", "de")
		d.Arm(0)
		for what, call := range calls(d, name, "b") {
			want(t, "P4.2: "+what, call(), api.ErrArg)
		}
		want(t, "P4.2: Rename to what is no name", d.Rename("a", name), api.ErrArg)
		want(t, "P4.2: Rename of none such to what is no name", d.Rename("c", name), api.ErrArg)
		if d.Calls() != 4 {
			t.Errorf("P4.4: %d calls with %q, want 4", d.Calls(), name)
		}
		want(t, "P4.3: the call that is armed", d.Sync("a"), api.ErrDown)
		for what, call := range calls(d, name, "b") {
			want(t, "P4.2: while the machine is down, "+what, call(), api.ErrArg)
		}
		if d.Calls() != 5 {
			t.Errorf("P4.4: %d calls with %q, want 5", d.Calls(), name)
		}
	}
}

// TestErrDown: P4.2, ahead of all other errors; nothing is done.
func TestErrDown(t *testing.T) {
	for _, name := range []string{"a", "c"} {
		d := filled(t, "a", "abc", "de")
		add(t, d, "b", "x", "yz")
		d.Arm(0)
		for what, call := range calls(d, name, "b") {
			want(t, "P4.2: "+what, call(), api.ErrDown)
		}
		if s, e := d.Read(name, 99, 99); s != "" || e != api.ErrDown {
			t.Errorf("P4.2: Read = %q, %d", s, e)
		}
		if l, e := d.List(); l != nil || e != api.ErrDown {
			t.Errorf("P4.2: List = %q, %d", l, e)
		}
		want(t, "P4.2: Append of too much", d.Append("a", strings.Repeat("x", 1001)), api.ErrDown)
		if d.Calls() != 18 {
			t.Errorf("P4.4: %d calls, want 18", d.Calls())
		}
		d.Rise([]int{1, 1})
		has(t, "P4.2", d, "a", "abcd")
		has(t, "P4.2", d, "b", "xy")
		if l := names(t, d); !slices.Equal(l, []string{"a", "b"}) {
			t.Errorf("P4.2: files %q", l)
		}
	}
}

// TestErrNone: P4.2, of a file that is not there; these are calls.
func TestErrNone(t *testing.T) {
	d := made(t, 10)
	n := 0
	for what, call := range calls(d, "a", "b") {
		if what == "Create" {
			continue
		}
		n++
		want(t, "P4.2: "+what, call(), api.ErrNone)
		if d.Calls() != n {
			t.Errorf("P4.4: %d calls, want %d", d.Calls(), n)
		}
	}
}

// TestArm: P4.3, so many calls are done, then none, till the machine is up again.
func TestArm(t *testing.T) {
	for n := range 6 {
		d := filled(t, "a", "abc", "de")
		d.Arm(n)
		for range n {
			_, e := d.Size("a")
			want(t, "P4.3: ahead of the fall", e, api.OK)
		}
		for range 5 {
			_, e := d.Size("a")
			want(t, "P4.3: from the fall on", e, api.ErrDown)
		}
		d.Rise(nil)
		for range 9 {
			_, e := d.Size("a")
			want(t, "P4.3: behind Rise", e, api.OK)
		}
	}
}

// TestArmKinds: P4.3, each kind of call may fall, and counts ahead of a fall, also with an error.
func TestArmKinds(t *testing.T) {
	for _, what := range []string{"Create", "Append", "Read", "Size", "Sync", "Rename", "Remove"} {
		for _, name := range []string{"a", "c"} {
			d := filled(t, "a", "abc", "de")
			d.Arm(1)
			if e := calls(d, name, "b")[what](); e == api.ErrDown || e == api.ErrArg {
				t.Errorf("P4.3: %s ahead of the fall: error %d", what, e)
			}
			want(t, "P4.3: behind "+what, d.Create("z"), api.ErrDown)
			f := filled(t, "a", "abc", "de")
			f.Arm(0)
			want(t, "P4.3: "+what, calls(f, name, "b")[what](), api.ErrDown)
			f.Rise(nil)
			has(t, "P4.3", f, "a", "abc")
			if l := names(t, f); len(l) != 1 {
				t.Errorf("P4.3: %s is done, though it fell: %q", what, l)
			}
		}
	}
	d := made(t, 0)
	d.Arm(1)
	_, e := d.List()
	want(t, "P4.3: List", e, api.OK)
	_, e = d.List()
	want(t, "P4.3: List", e, api.ErrDown)
}

// TestArmAgain: P4.3, what was said last holds; below 0 none falls.
func TestArmAgain(t *testing.T) {
	for _, n := range []int{-1, -2, math.MinInt, math.MaxInt} {
		d := filled(t, "a", "abc", "de")
		d.Arm(0)
		d.Arm(n)
		for range 20 {
			want(t, "P4.3: Sync", d.Sync("a"), api.OK)
		}
	}
	d := filled(t, "a", "abc", "de")
	d.Arm(0)
	d.Arm(2)
	want(t, "P4.3: Sync", d.Sync("a"), api.OK)
	d.Arm(1)
	want(t, "P4.3: Sync", d.Sync("a"), api.OK)
	want(t, "P4.3: Sync", d.Sync("a"), api.ErrDown)
	d.Arm(-1)
	want(t, "P4.3: armed anew, the machine is not up", d.Sync("a"), api.ErrDown)
	d.Arm(5)
	want(t, "P4.3: armed anew, the machine is not up", d.Sync("a"), api.ErrDown)
	d.Rise(nil)
	for range 20 {
		want(t, "P4.3: behind Rise it is not armed", d.Sync("a"), api.OK)
	}
}

// TestRise: P4.3, what stays of what waited, file by file, in the names' order.
func TestRise(t *testing.T) {
	for _, c := range []struct {
		keep    []int
		a, b, c string
	}{
		{nil, "", "1", "uv"},
		{[]int{}, "", "1", "uv"},
		{[]int{0, 0, 0}, "", "1", "uv"},
		{[]int{1}, "x", "1", "uv"},
		{[]int{2, 1}, "xy", "12", "uv"},
		{[]int{3, 2, 1}, "xyz", "123", "uv"},
		{[]int{0, 0, 4}, "", "1", "uv"},
		{[]int{-1, 2, -1}, "", "123", "uv"},
		{[]int{4, 4, 4}, "xyz", "1234", "uv"},
		{[]int{math.MaxInt, math.MinInt, math.MaxInt}, "xyz", "1", "uv"},
		{[]int{math.MinInt, math.MaxInt, 0}, "", "1234", "uv"},
		{[]int{1, 1, 1, 1, 1, 1}, "x", "12", "uv"},
	} {
		d := made(t, 100)
		add(t, d, "c", "uv", "")
		add(t, d, "b", "1", "234")
		add(t, d, "a", "", "xyz")
		d.Arm(0)
		want(t, "P4.3: Sync", d.Sync("b"), api.ErrDown)
		given := slices.Clone(c.keep)
		d.Rise(c.keep)
		if !slices.Equal(given, c.keep) {
			t.Errorf("0.5: Rise changes what it is given: %v, ahead %v", c.keep, given)
		}
		for _, again := range []*Disk{d, after(d, 9, 9, 9), after(d)} { // nothing waits any more
			has(t, "P4.3", again, "a", c.a)
			has(t, "P4.3", again, "b", c.b)
			has(t, "P4.3", again, "c", c.c)
		}
	}
}

// TestRiseThenAppend: P4.3, what comes behind a fall stands behind what stayed, and waits.
func TestRiseThenAppend(t *testing.T) {
	d := filled(t, "a", "abc", "defgh")
	d.Rise([]int{2})
	want(t, "P4.3: Append", d.Append("a", "12"), api.OK)
	has(t, "P4.3", d, "a", "abcde12")
	has(t, "P4.3", after(d), "a", "abcde")
	has(t, "P4.3", after(d, 1), "a", "abcde1")
}

// TestRiseUp: P4.3, of a machine that did not fall the same: what waits is gone, and nothing is armed.
func TestRiseUp(t *testing.T) {
	d := filled(t, "a", "abc", "de")
	d.Arm(0)
	d.Rise([]int{1})
	has(t, "P4.3", d, "a", "abcd")
	want(t, "P4.3: Sync", d.Sync("a"), api.OK)
	if d.Calls() != 5 {
		t.Errorf("P4.4: %d calls, want 5", d.Calls())
	}
}

// bitwise answers s with the bits turned, as the document tells it, bit by bit.
func bitwise(s string, at int, bits uint32) string {
	all := []byte(s)
	for i := range 32 {
		for place := range 8 * len(all) {
			if bits&(1<<i) != 0 && place-i == at {
				all[place/8] ^= byte(1 << (place % 8))
			}
		}
	}
	return string(all)
}

// patterns are bits that may be turned.
func patterns() []uint32 {
	l := []uint32{0, 1, 2, 3, 0x80, 0x100, 0x55555555, 0x80000000, 0x80000001, 0xedb88320, math.MaxUint32}
	for i := range 32 {
		l = append(l, 1<<i)
	}
	return l
}

// TestTurn: P4.3, bits of what is kept and of what waits, the lowest of a byte first.
func TestTurn(t *testing.T) {
	for _, s := range []string{"", "\x00", "abcde", "\x00\xff\x0f\x55\xaa\x00\x80"} {
		for _, bits := range patterns() {
			for _, at := range []int{0, 1, 7, 8, 9, 15, 16, 20, 31, 32, 39, 40, 55, 56, 57, 1 << 20, 1 << 62, math.MaxInt - 31, math.MaxInt - 1, math.MaxInt} {
				d := filled(t, "a", s[:len(s)/2], s[len(s)/2:])
				add(t, d, "b", "other", "")
				if !d.Turn("a", at, bits) {
					t.Errorf("P4.3: Turn(a, %d, %x) = false", at, bits)
				}
				turned := bitwise(s, at, bits)
				has(t, "P4.3", d, "a", turned)
				has(t, "P4.3", d, "b", "other")
				has(t, "P4.3", after(d), "a", turned[:len(s)/2])
			}
		}
	}
	d := filled(t, "a", "\x00\x00", "\x00\x00")
	if !d.Turn("a", 6, 0x407) || !d.Turn("a", 31, 0xffffffff) {
		t.Error("P4.3: Turn = false")
	}
	has(t, "P4.3", d, "a", "\xc0\x01\x01\x80")
}

// TestTurnNone: P4.3, no such file, and no such place; it is no call.
func TestTurnNone(t *testing.T) {
	d := filled(t, "a", "abc", "de")
	for _, c := range []struct {
		name string
		at   int
	}{{"b", 0}, {"", 0}, {"A", 0}, {"a", -1}, {"a", -8}, {"a", math.MinInt}, {"b", -1}} {
		if d.Turn(c.name, c.at, math.MaxUint32) {
			t.Errorf("P4.3: Turn(%q, %d) = true", c.name, c.at)
		}
	}
	has(t, "P4.3", d, "a", "abcde")
	d.Arm(0)
	if !d.Turn("a", 0, 3) {
		t.Error("P4.3: Turn = false")
	}
	want(t, "P4.3: Sync", d.Sync("a"), api.ErrDown)
	if !d.Turn("a", 8, 1) {
		t.Error("P4.3: Turn of a machine that is down = false")
	}
	if d.Calls() != 5 {
		t.Errorf("P4.4: %d calls, want 5", d.Calls())
	}
	d.Rise(nil)
	has(t, "P4.3", d, "a", "bcc")
}

// TestCalls: P4.4, all calls, with those that fell, and those behind them.
func TestCalls(t *testing.T) {
	d := made(t, 10)
	n := 0
	count := func(what string) {
		t.Helper()
		n++
		if d.Calls() != n {
			t.Errorf("P4.4: behind %s %d calls, want %d", what, d.Calls(), n)
		}
	}
	round := func() {
		for _, what := range []string{"Create", "Append", "Read", "Size", "Sync", "Rename", "Remove"} {
			calls(d, "a", "b")[what]()
			count(what)
		}
		d.List()
		count("List")
	}
	round()
	d.Arm(4)
	round()
	round()
	d.Rise(nil)
	round()
	d.Turn("a", 0, 1)
	d.Used()
	d.Clone().List()
	if d.Calls() != n {
		t.Errorf("P4.4: %d calls, want %d", d.Calls(), n)
	}
}

// TestUsed: P4.4, bytes of all files, also of a machine that is down; it is no call.
func TestUsed(t *testing.T) {
	d := made(t, 100)
	used := func(n int) {
		t.Helper()
		if d.Used() != n {
			t.Errorf("P4.4: %d bytes, want %d", d.Used(), n)
		}
	}
	used(0)
	add(t, d, "a", "abc", "de")
	used(5)
	add(t, d, "b", "1", "234")
	used(9)
	want(t, "P4.2: Append", d.Append("a", strings.Repeat("x", 92)), api.ErrFull)
	used(9)
	d.Arm(0)
	want(t, "P4.2: Remove", d.Remove("a"), api.ErrDown)
	used(9)
	d.Rise([]int{1})
	used(5)
	want(t, "P4.2: Rename", d.Rename("b", "c"), api.OK)
	used(5)
	want(t, "P4.2: Rename", d.Rename("c", "a"), api.OK)
	used(1)
	want(t, "P4.2: Remove", d.Remove("a"), api.OK)
	used(0)
}

// TestClone: P4.4, as the disk is: files, what waits, room, calls, what is armed, and whether it is down.
func TestClone(t *testing.T) {
	d := made(t, 10)
	add(t, d, "a", "abc", "de")
	d.Arm(1)
	c := d.Clone()
	if c.Calls() != 4 || c.Used() != 5 {
		t.Errorf("P4.4: a copy has %d calls and %d bytes, want 4 and 5", c.Calls(), c.Used())
	}
	want(t, "P4.4: Append beyond the room", c.Append("a", "123456"), api.ErrFull)
	want(t, "P4.4: the call that is armed", c.Sync("a"), api.ErrDown)
	down := c.Clone()
	want(t, "P4.4: a copy of one that is down", down.Sync("a"), api.ErrDown)
	down.Rise([]int{1})
	has(t, "P4.4", down, "a", "abcd")
	want(t, "P4.4: Sync of what was copied", d.Sync("a"), api.OK)
	want(t, "P4.4: the call that is armed", d.Sync("a"), api.ErrDown)
	if c.Calls() != 6 || d.Calls() != 6 || down.Calls() != 7 {
		t.Errorf("P4.4: %d, %d and %d calls", c.Calls(), d.Calls(), down.Calls())
	}
}

// changes are what may be done to a disk with the file a.
func changes() []func(d *Disk) {
	return []func(d *Disk){
		func(d *Disk) { d.Create("n") },
		func(d *Disk) { d.Append("a", "fg") },
		func(d *Disk) { d.Sync("a") },
		func(d *Disk) { d.Rename("a", "b") },
		func(d *Disk) { d.Remove("a") },
		func(d *Disk) { d.Turn("a", 0, math.MaxUint32) },
		func(d *Disk) { d.Rise([]int{1}) },
		func(d *Disk) { d.Rise(nil); d.Append("a", "XY") },
		func(d *Disk) { d.Arm(0); d.List() },
	}
}

// TestCloneOwn: P4.4, in memory of its own: neither does what is done to the other.
func TestCloneOwn(t *testing.T) {
	for i, change := range changes() {
		d := filled(t, "a", "abc", "de")
		c := d.Clone()
		for _, pair := range [][2]*Disk{{c.Clone(), c}, {d, d.Clone()}} {
			change(pair[0])
			other := pair[1]
			has(t, "P4.4", other, "a", "abcde")
			has(t, "P4.4", after(other), "a", "abc")
			if l := names(t, other); !slices.Equal(l, []string{"a"}) || other.Calls() != 4 || other.Used() != 5 {
				t.Errorf("P4.4: change %d of the other disk: files %q, calls %d, bytes %d", i, l, other.Calls(), other.Used())
			}
		}
	}
	d := filled(t, "a", "abc", "de")
	c := d.Clone()
	for _, s := range []string{"1", "2", "3", "4", "5", "6", "7", "8", "9"} { // what is appended lies nowhere in what the other has
		want(t, "P4.4: Append", d.Append("a", s), api.OK)
		want(t, "P4.4: Append", c.Append("a", "-"), api.OK)
	}
	has(t, "P4.4", d, "a", "abcde123456789")
	has(t, "P4.4", c, "a", "abcde---------")
}

// TestNoDisk: P4.4, a nil Disk, and one that New did not give.
func TestNoDisk(t *testing.T) {
	for _, d := range []*Disk{nil, {}, new(Disk)} {
		for _, name := range append(wrong(), "a") {
			for what, call := range calls(d, name, "b") {
				want(t, "P4.4: of no disk, "+what, call(), api.ErrArg)
			}
			if d.Turn(name, 0, 1) {
				t.Error("P4.4: of no disk, Turn = true")
			}
		}
		if l, e := d.List(); l != nil || e != api.ErrArg {
			t.Errorf("P4.4: of no disk, List = %q, %d", l, e)
		}
		d.Arm(0)
		d.Rise([]int{1})
		if d.Calls() != 0 || d.Used() != 0 || d.Clone() != nil {
			t.Errorf("P4.4: of no disk, %d calls, %d bytes, copy %v", d.Calls(), d.Used(), d.Clone())
		}
		want(t, "P4.4: of no disk, Create", d.Create("a"), api.ErrArg)
	}
}

// TestOwn: what is handed in is not kept, and what is handed out is memory of its own.
func TestOwn(t *testing.T) {
	d := made(t, 100)
	name, to, s := []byte("a"), []byte("b"), []byte("abc")
	given := func(l []byte) string { return unsafe.String(&l[0], len(l)) }
	want(t, "P4.2: Create", d.Create(given(name)), api.OK)
	want(t, "P4.2: Append", d.Append(given(name), given(s)), api.OK)
	name[0], s[0] = 'x', 'x'
	has(t, "0.5", d, "a", "abc")
	got, _ := d.Read("a", 0, 3)
	want(t, "P4.2: Rename", d.Rename("a", given(to)), api.OK)
	to[0] = 'x'
	has(t, "0.5", d, "b", "abc")
	d.Turn("b", 0, math.MaxUint32)
	if got != "abc" {
		t.Errorf("what was read hangs on the disk: %q", got)
	}
	l, _ := d.List()
	l[0] = "q"
	if again := names(t, d); !slices.Equal(again, []string{"b"}) {
		t.Errorf("the files hang on what was listed: %q", again)
	}
}
