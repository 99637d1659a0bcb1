package commit

import (
	"fmt"
	"hash/crc32"
	"maps"
	"math"
	"slices"
	"strings"
	"testing"

	"chainman/api"
	"chainman/fs"
	"chainman/manifest"
)

const most = 6 // calls of a save: so many, if a file on the way is there

// has is a file of a disk: bytes that are kept, and bytes that wait behind them.
type has struct{ name, kept, waits string }

func disk(t *testing.T, room int, files ...has) *fs.Disk {
	t.Helper()
	d, e := fs.New(room)
	if e != api.OK {
		t.Fatalf("a disk of %d: error %d", room, e)
	}
	for _, f := range files {
		for _, e := range []api.Errno{d.Create(f.name), d.Append(f.name, f.kept), d.Sync(f.name), d.Append(f.name, f.waits)} {
			if e != api.OK {
				t.Fatalf("the file %s: error %d", f.name, e)
			}
		}
	}
	return d
}

// others are so many files of one byte each, none of them the manifest's, or on the way.
func others(n int) []has {
	var l []has
	for i := range n {
		l = append(l, has{name: fmt.Sprint("o.", i), kept: "o"})
	}
	return l
}

// stays answers a list by which of no file more than n waiting bytes stay.
func stays(n int) []int { return slices.Repeat([]int{n}, api.MaxFiles) }

// now answers the files of a disk behind a fall, of whose waiting bytes so many stay; the disk is left as it is.
func now(d *fs.Disk, stay int) map[string]string {
	c := d.Clone()
	c.Rise(stays(stay))
	names, _ := c.List()
	all := map[string]string{}
	for _, name := range names {
		n, _ := c.Size(name)
		all[name], _ = c.Read(name, 0, n)
	}
	return all
}

// alike fails the test, if two disks have unlike files, or unlike bytes that wait, or had another number of calls.
func alike(t *testing.T, promise string, got, wanted *fs.Disk) {
	t.Helper()
	for _, stay := range []int{0, 1, api.MaxDisk} {
		if a, b := now(got, stay), now(wanted, stay); !maps.Equal(a, b) {
			t.Fatalf("%s: with %d that stay, files %q, want %q", promise, stay, a, b)
		}
	}
	if got.Calls() != wanted.Calls() {
		t.Fatalf("%s: %d calls, want %d", promise, got.Calls(), wanted.Calls())
	}
}

func put(t *testing.T, m api.Manifest) string {
	t.Helper()
	s, ok := manifest.Put(m)
	if !ok {
		t.Fatalf("%v may not be", m)
	}
	return s
}

func file(name string) api.File {
	return api.File{Name: name, Size: 17, Count: 1 << 40, Sum: 0xfedcba98}
}

func many(n int) []api.File {
	var l []api.File
	for i := range n {
		l = append(l, api.File{Name: fmt.Sprint("f.", i), Size: 1 + i, Count: i * i, Sum: uint32(i) * 0x01010101})
	}
	return l
}

// fit are manifests that may be, of the least and of the most bytes among them.
func fit() []api.Manifest {
	l := []api.Manifest{
		{Stage: 1},
		{Stage: 7, Pass: 1000},
		{Stage: 4, Pass: 9, Files: []api.File{file("pairs.out"), file("graph.9")}},
		{Stage: 6, Files: many(16)},
	}
	for i := range 16 {
		l[3].Files[i].Name += strings.Repeat("z", 24-len(l[3].Files[i].Name))
	}
	return l
}

// unfit are manifests that may not be.
func unfit() []api.Manifest {
	one := func(f api.File) api.Manifest { return api.Manifest{Stage: 1, Files: []api.File{f}} }
	return []api.Manifest{
		{},
		{Stage: 0, Pass: 1},
		{Stage: 8},
		{Stage: -1},
		{Stage: math.MinInt},
		{Stage: 1 << 32},
		{Stage: 65537},
		{Stage: 1, Pass: -1},
		{Stage: 1, Pass: 1001},
		{Stage: 1, Pass: 65536},
		{Stage: 1, Pass: math.MaxInt},
		{Stage: 1, Files: many(17)},
		{Stage: 1, Files: many(64)},
		{Stage: 1, Files: []api.File{file("a"), file("b"), file("a")}},
		one(api.File{}),
		one(file("")),
		one(file("A")),
		one(file(strings.Repeat("a", 25))),
		one(api.File{Name: "a", Size: 0}),
		one(api.File{Name: "a", Size: 65}),
		one(api.File{Name: "a", Size: 257}),
		one(api.File{Name: "a", Size: 1, Count: -1}),
		one(api.File{Name: "a", Size: 1, Count: 1<<62 + 1}),
	}
}

// start is a disk on which a manifest is saved, or from which one is loaded.
type start struct {
	what string
	disk *fs.Disk
}

// starts are disks of all kinds on which bytes s may be saved.
func starts(t *testing.T, s string) []start {
	t.Helper()
	old := put(t, api.Manifest{Stage: 2, Pass: 5, Files: many(3)})
	mine, torn := has{Name, old, ""}, has{Way, old[:9], ""}
	down := disk(t, 4000, mine, torn)
	down.Arm(0)
	down.List()
	return []start{
		{"nothing", disk(t, 4000)},
		{"a manifest", disk(t, 4000, mine)},
		{"a torn file on the way", disk(t, 4000, torn)},
		{"both", disk(t, 4000, mine, torn)},
		{"an empty file on the way", disk(t, 4000, mine, has{Way, "", ""})},
		{"bytes that wait", disk(t, 4000, has{Name, old, "xyz"}, has{Way, old, "xyz"})},
		{"a manifest that waits", disk(t, 4000, has{Name, "", old})},
		{"the same manifest", disk(t, 4000, has{Name, s, ""}, has{Way, s, ""})},
		{"what is no manifest", disk(t, 4000, has{Name, "no manifest", ""})},
		{"other files", disk(t, 4000, has{"manifest.newer", "ab", "c"}, mine, has{"a", "d", "ef"}, torn, has{"z", "", "g"})},
		{"no room", disk(t, 0)},
		{"just room", disk(t, len(s))},
		{"a byte too little", disk(t, len(s)-1)},
		{"just room beside a manifest", disk(t, len(old)+len(s), mine)},
		{"a byte too little beside a manifest", disk(t, len(old)+len(s)-1, mine)},
		{"just room for one on the way", disk(t, len(old)+max(len(s), 9), mine, torn)},
		{"a byte too little for one on the way", disk(t, len(old)+len(s)-1, mine, has{Way, s[1:], ""})},
		{"199 files", disk(t, 4000, others(199)...)},
		{"200 files", disk(t, 4000, others(200)...)},
		{"200 files, one the manifest", disk(t, 4000, append(others(199), mine)...)},
		{"200 files, one on the way", disk(t, 4000, append(others(199), torn)...)},
		{"a machine that fell", down},
	}
}

// told does to a disk, call by call, what the chapter says of saving bytes.
func told(d *fs.Disk, s string) api.Errno {
	_, e := d.Size("manifest.new")
	if e != api.OK && e != api.ErrNone {
		return e
	}
	if e == api.OK {
		if e := d.Remove("manifest.new"); e != api.OK {
			return e
		}
	}
	if e := d.Create("manifest.new"); e != api.OK {
		return e
	}
	if e := d.Append("manifest.new", s); e != api.OK {
		return e
	}
	if e := d.Sync("manifest.new"); e != api.OK {
		return e
	}
	return d.Rename("manifest.new", "manifest")
}

// loads fails the test, if another manifest is loaded than that one, or none.
func loads(t *testing.T, promise string, d *fs.Disk, wanted api.Manifest) {
	t.Helper()
	m, ok, e := Load(d)
	if !manifest.Same(m, wanted) || !ok || e != api.OK {
		t.Fatalf("%s: Load = %v, %v, %d, want %v, true, %d", promise, m, ok, e, wanted, api.OK)
	}
}

// none fails the test, if a manifest is loaded, or another error is told.
func none(t *testing.T, promise string, d *fs.Disk, wanted api.Errno) {
	t.Helper()
	m, ok, e := Load(d)
	if m.Stage != 0 || m.Pass != 0 || m.Files != nil || ok || e != wanted {
		t.Fatalf("%s: Load = %v, %v, %d, want {0 0 []}, false, %d", promise, m, ok, e, wanted)
	}
}

// TestNames: the names that the chapter gives.
func TestNames(t *testing.T) {
	names := []string{Name, api.ManifestName, Way}
	if wanted := []string{"manifest", "manifest", "manifest.new"}; !slices.Equal(names, wanted) {
		t.Errorf("P20.1: names %q, want %q", names, wanted)
	}
}

// TestSave: P20.1, ordinary ones: just the manifest's file is there then, with the bytes, all of them kept.
func TestSave(t *testing.T) {
	for i, m := range fit() {
		d := disk(t, 4000, has{"a", "b", "c"})
		for _, again := range []bool{false, true} { // the second one comes in the place of the first
			calls := d.Calls()
			if e := Save(d, m); e != api.OK {
				t.Fatalf("P20.1: Save of %v = %d, again %v", m, e, again)
			}
			if n := d.Calls() - calls; n != most-1 {
				t.Errorf("P20.1: %d calls, want %d", n, most-1)
			}
			if got, wanted := now(d, 0), map[string]string{"a": "b", "manifest": put(t, m)}; !maps.Equal(got, wanted) {
				t.Errorf("P20.1: behind Save of %v, files %q, want %q", m, got, wanted)
			}
			loads(t, "P20.1", d, m)
		}
		next := fit()[(i+1)%len(fit())]
		if e := Save(d, next); e != api.OK {
			t.Fatalf("P20.1: Save of %v behind %v = %d", next, m, e)
		}
		loads(t, "P20.1", d, next)
	}
}

// TestSaveBytes: P20.1, the bytes of the chapter of manifests.
func TestSaveBytes(t *testing.T) {
	d := disk(t, 13)
	if e := Save(d, api.Manifest{Stage: 3, Pass: 258}); e != api.OK {
		t.Fatalf("P20.1: Save = %d", e)
	}
	body := "MAN1\x00\x03\x01\x02\x00"
	sum := crc32.ChecksumIEEE([]byte(body))
	wanted := body + string([]byte{byte(sum), byte(sum >> 8), byte(sum >> 16), byte(sum >> 24)})
	if got := now(d, 0); len(got) != 1 || got["manifest"] != wanted {
		t.Errorf("P20.1: files %q, want the manifest's with %q", got, wanted)
	}
}

// TestSaveCalls: P20.1, on disks of all kinds, behind a fall at any call: the errors, and the disk, are what the chapter's calls make of them.
func TestSaveCalls(t *testing.T) {
	seen := map[api.Errno]int{}
	for _, m := range fit() {
		s := put(t, m)
		for _, x := range starts(t, s) {
			for n := -1; n <= most+1; n++ {
				got, wanted := x.disk.Clone(), x.disk.Clone()
				got.Arm(n)
				wanted.Arm(n)
				what := fmt.Sprintf("P20.1: Save of %d bytes on a disk with %s, armed with %d", len(s), x.what, n)
				e, f := Save(got, m), told(wanted, s)
				if e != f {
					t.Fatalf("%s = %d, want %d", what, e, f)
				}
				alike(t, what, got, wanted)
				a, b := got.Clone().Sync("a"), wanted.Clone().Sync("a")
				if a != b { // whether it is up, and what is still armed
					t.Fatalf("%s: behind it Sync = %d, want %d", what, a, b)
				}
				seen[e]++
			}
		}
	}
	for _, e := range []api.Errno{api.OK, api.ErrFull, api.ErrDown} { // or the walk shows little
		if seen[e] == 0 {
			t.Errorf("no Save told %d: %v", e, seen)
		}
	}
}

// TestSaveFull: P20.1, where the disk is full: the error, and what was there is there.
func TestSaveFull(t *testing.T) {
	old, m := api.Manifest{Stage: 1}, api.Manifest{Stage: 2, Files: many(2)}
	s, ahead := put(t, m), put(t, old)
	for _, x := range []struct {
		what   string
		disk   *fs.Disk
		wanted api.Errno
	}{
		{"just room", disk(t, len(ahead)+len(s), has{Name, ahead, ""}), api.OK},
		{"a byte too little", disk(t, len(ahead)+len(s)-1, has{Name, ahead, ""}), api.ErrFull},
		{"room that the file on the way gives", disk(t, len(ahead)+len(s), has{Name, ahead, ""}, has{Way, s, ""}), api.OK},
		{"199 files", disk(t, 4000, append(others(198), has{Name, ahead, ""})...), api.OK},
		{"200 files", disk(t, 4000, append(others(199), has{Name, ahead, ""})...), api.ErrFull},
		{"200 files, one on the way", disk(t, 4000, append(others(198), has{Name, ahead, ""}, has{Way, s[:3], s[3:]})...), api.OK},
	} {
		wanted := m
		if x.wanted != api.OK {
			wanted = old
		}
		if e := Save(x.disk, m); e != x.wanted {
			t.Errorf("P20.1: with %s, Save = %d, want %d", x.what, e, x.wanted)
		}
		loads(t, "P20.1: with "+x.what, x.disk, wanted)
	}
}

// TestSaveUnfit: P20.1, a manifest that may not be is told ahead of all else, and nothing is done.
func TestSaveUnfit(t *testing.T) {
	for _, m := range unfit() {
		for _, x := range starts(t, put(t, api.Manifest{Stage: 1})) {
			for _, n := range []int{-1, 0} {
				got, wanted := x.disk.Clone(), x.disk.Clone()
				got.Arm(n)
				if e := Save(got, m); e != api.ErrArg {
					t.Fatalf("P20.1: on a disk with %s, Save of %v = %d, want %d", x.what, m, e, api.ErrArg)
				}
				alike(t, "P20.1: behind what may not be", got, wanted)
			}
		}
	}
}

// TestNoDisk: of a nil Disk, and one that New did not give, the disk's own error is told.
func TestNoDisk(t *testing.T) {
	for _, d := range []*fs.Disk{nil, {}, new(fs.Disk)} {
		for _, m := range append(fit(), unfit()...) {
			if e := Save(d, m); e != api.ErrArg {
				t.Errorf("P20.1: of no disk, Save of %v = %d, want %d", m, e, api.ErrArg)
			}
		}
		none(t, "P20.2: of no disk", d, api.ErrArg)
	}
}

// TestOwn: what is saved is not changed, nor kept, and what is loaded is memory of its own.
func TestOwn(t *testing.T) {
	d := disk(t, 4000)
	m := api.Manifest{Stage: 4, Pass: 2, Files: many(5)}
	wanted := api.Manifest{Stage: 4, Pass: 2, Files: many(5)}
	if e := Save(d, m); e != api.OK || !manifest.Same(m, wanted) {
		t.Fatalf("0.5: behind Save, %d, the manifest is %v, want %v", e, m, wanted)
	}
	m.Files[0].Name = "other"
	loads(t, "0.5", d, wanted)
	one, _, _ := Load(d)
	one.Files[1] = api.File{Name: "other"}
	loads(t, "0.5", d, wanted)
}

// TestLoad: P20.2, what was saved, with just two calls, and with nothing done to the disk.
func TestLoad(t *testing.T) {
	for _, m := range fit() {
		s := put(t, m)
		for _, f := range []has{{Name, s, ""}, {Name, "", s}, {Name, s[:7], s[7:]}} {
			d := disk(t, 4000, f, has{Way, "on the way", ""})
			wanted := d.Clone()
			loads(t, "P20.2", d, m)
			wanted.Size("manifest")
			wanted.Read("manifest", 0, len(s))
			alike(t, "P20.2: behind Load", d, wanted)
		}
	}
}

// TestLoadNone: P20.2, where there is no manifest's file, whatever else there is.
func TestLoadNone(t *testing.T) {
	s := put(t, fit()[2])
	for _, files := range [][]has{{}, {{Way, s, ""}}, {{"manifes", s, ""}, {"manifest.", s, ""}, {"manifest0", s, ""}, {"a", s, ""}}, others(200)} {
		d := disk(t, 4000, files...)
		wanted := d.Clone()
		none(t, "P20.2: without a manifest", d, api.OK)
		wanted.Size("manifest")
		alike(t, "P20.2: behind Load of none", d, wanted)
	}
}

// TestLoadCorrupt: P20.2, of a file that is there, and is no manifest.
func TestLoadCorrupt(t *testing.T) {
	for _, m := range fit() {
		s := put(t, m)
		bad := []string{"", "x", "MAN1", s + "\x00", "\x00" + s, s + s, s[1:], strings.Repeat("\x00", 13), strings.Repeat("x", 400)}
		for i := range len(s) {
			bad = append(bad, s[:i])
		}
		for _, b := range bad {
			none(t, fmt.Sprintf("P20.2: of %q", b), disk(t, 4000, has{Name, b, ""}, has{Way, s, ""}), api.ErrCorrupt)
		}
		for at := range 8 * len(s) {
			for _, bits := range []uint32{1, 3, 1<<31 + 1, 0x9e3779b1, math.MaxUint32} {
				d := disk(t, 4000, has{Name, s, ""})
				d.Turn(Name, at, bits)
				none(t, fmt.Sprintf("P20.2: with the bits %x at %d turned", bits, at), d, api.ErrCorrupt)
			}
		}
	}
}

// TestLoadUnfit: P20.2, of bytes that are closed by their sum, but are of no manifest that may be.
func TestLoadUnfit(t *testing.T) {
	for _, body := range []string{"", "MAN1", "MAN1\x00\x00\x00\x00\x00", "MAN1\x00\x08\x00\x00\x00", "MAN1\x00\x01\x03\xe9\x00", "MAN2\x00\x01\x00\x00\x00", "MAN1\x00\x01\x00\x00\x01", "MAN1\x00\x01\x00\x00\x00\x00"} {
		sum := crc32.ChecksumIEEE([]byte(body))
		s := body + string([]byte{byte(sum), byte(sum >> 8), byte(sum >> 16), byte(sum >> 24)})
		none(t, fmt.Sprintf("P20.2: of %q", s), disk(t, 4000, has{Name, s, ""}), api.ErrCorrupt)
	}
}

// TestLoadDown: P20.2, where the machine falls at one of the calls, or fell.
func TestLoadDown(t *testing.T) {
	for _, s := range []string{put(t, fit()[2]), "no manifest", ""} {
		for n := range 2 {
			d := disk(t, 4000, has{Name, s, ""})
			calls := d.Calls()
			d.Arm(n)
			none(t, fmt.Sprintf("P20.2: armed with %d", n), d, api.ErrDown)
			if d.Calls() != calls+n+1 {
				t.Errorf("P20.2: armed with %d: %d calls, want %d", n, d.Calls()-calls, n+1)
			}
			none(t, "P20.2: of a machine that fell", d, api.ErrDown)
		}
	}
	d := disk(t, 4000)
	d.Arm(0)
	none(t, "P20.2: of none, armed with 0", d, api.ErrDown)
}

// outcome fails the test, if behind a save of next, and a fall, is loaded what the document does not promise; it answers what is loaded.
func outcome(t *testing.T, what string, d *fs.Disk, ahead, next api.Manifest, told api.Errno) api.Manifest {
	t.Helper()
	m, ok, e := Load(d)
	isNext, isAhead := ok && manifest.Same(m, next), ok == (ahead.Stage != 0) && manifest.Same(m, ahead)
	if e != api.OK || !isNext && (told == api.OK || !isAhead) {
		t.Fatalf("P20.3: %s: Save told %d, Load = %v, %v, %d, want %v, or, if there was an error, %v", what, told, m, ok, e, next, ahead)
	}
	return m
}

// TestFalls: P20.3, wherever the machine falls, whatever stays: the manifest that was there, or the new one; saved again, it is the new one.
func TestFalls(t *testing.T) {
	next := api.Manifest{Stage: 4, Pass: 3, Files: many(2)}
	s, stale := put(t, next), put(t, api.Manifest{Stage: 5, Pass: 9, Files: many(1)})
	for _, ahead := range append(fit(), api.Manifest{}, next) {
		for _, left := range [][]has{{}, {{Way, "", ""}}, {{Way, s[:5], ""}}, {{Way, s[:5], s[5:]}}, {{Way, stale, ""}}, {{Way, "", stale}}} {
			for n := -1; n <= most; n++ {
				for stay := range len(s) + 2 {
					d := disk(t, 4000, left...)
					if ahead.Stage != 0 {
						d.Create(Name)
						d.Append(Name, put(t, ahead))
						d.Sync(Name)
					}
					d.Arm(n)
					told := Save(d, next)
					if told == api.OK != (n < 0 || n >= most-1+len(left)) {
						t.Fatalf("P20.1: with %q on the way, armed with %d, Save = %d", left, n, told)
					}
					d.Rise(stays(stay))
					outcome(t, fmt.Sprintf("with %q on the way, armed with %d, of which %d stay", left, n, stay), d, ahead, next, told)
					if e := Save(d, next); e != api.OK {
						t.Fatalf("P20.3: saved again, %d", e)
					}
					d.Rise(nil)
					loads(t, "P20.3: saved again", d, next)
				}
			}
		}
	}
}

// dice gives numbers that look like lots, always the same ones of a seed.
type dice uint64

func (x *dice) below(n int) int {
	*x = *x*6364136223846793005 + 1442695040888963407
	return int(uint64(*x)>>33) % n
}

func (x *dice) manifest() api.Manifest {
	return api.Manifest{Stage: 1 + x.below(7), Pass: x.below(1001), Files: many(x.below(17))}
}

// TestWalk: P20.3, of many saves one behind the other, on a machine that falls again and again, and is full at times.
func TestWalk(t *testing.T) {
	for seed := range 300 {
		x := dice(seed)
		d, ahead := disk(t, 500+x.below(500)), api.Manifest{}
		for step := range 40 {
			next := x.manifest()
			d.Arm(x.below(2*most) - 2)
			told := Save(d, next)
			if told != api.OK && told != api.ErrDown && told != api.ErrFull {
				t.Fatalf("P20.1: seed %d, step %d: Save = %d", seed, step, told)
			}
			d.Rise([]int{x.below(400), x.below(400)})
			ahead = outcome(t, fmt.Sprintf("seed %d, step %d", seed, step), d, ahead, next, told)
		}
	}
}
