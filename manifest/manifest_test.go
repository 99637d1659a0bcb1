package manifest

import (
	"encoding/binary"
	"hash/crc32"
	"math"
	"slices"
	"strings"
	"testing"
	"unsafe"

	"chainman/api"
)

// closed answers s, and behind it its sum, the lowest byte first.
func closed(s string) string {
	return string(binary.LittleEndian.AppendUint32([]byte(s), crc32.ChecksumIEEE([]byte(s))))
}

// big answers the lowest bytes of a number, the highest of them first.
func big(n uint64, size int) string {
	return string(binary.BigEndian.AppendUint64(nil, n))[8-size:]
}

// entryTold answers what the document puts of a file, whatever it is.
func entryTold(f api.File) string {
	return big(uint64(len(f.Name)), 1) + f.Name + big(uint64(f.Size), 1) + big(uint64(f.Count), 8) + big(uint64(f.Sum), 4)
}

// bodyTold answers what the document puts of a manifest ahead of its sum, whatever it is.
func bodyTold(m api.Manifest) string {
	s := "MAN1" + big(uint64(m.Stage), 2) + big(uint64(m.Pass), 2) + big(uint64(len(m.Files)), 1)
	for _, f := range m.Files {
		s += entryTold(f)
	}
	return s
}

func bytesTold(m api.Manifest) string { return closed(bodyTold(m)) }

// rightTold: the document's words on which manifest may be.
func rightTold(m api.Manifest) bool {
	if m.Stage < 1 || m.Stage > 7 || m.Pass < 0 || m.Pass > 1000 || len(m.Files) > 16 {
		return false
	}
	names := map[string]bool{}
	for _, f := range m.Files {
		letters := strings.Trim(f.Name, "abcdefghijklmnopqrstuvwxyz0123456789.") == ""
		if len(f.Name) < 1 || len(f.Name) > 24 || !letters || names[f.Name] {
			return false
		}
		if f.Size < 1 || f.Size > 64 || f.Count < 0 || f.Count > 1<<62 {
			return false
		}
		names[f.Name] = true
	}
	return true
}

// told reads bytes as the document tells them: none, if they are of no manifest. It cuts what it has read from the front.
func told(s string) (api.Manifest, bool) {
	if len(s) < 13 || closed(s[:len(s)-4]) != s || s[:4] != "MAN1" {
		return api.Manifest{}, false
	}
	rest := s[4 : len(s)-4]
	short := false
	cut := func(n int) string {
		if n > len(rest) {
			short, rest = true, rest+strings.Repeat("\x00", n)
		}
		piece := rest[:n]
		rest = rest[n:]
		return piece
	}
	number := func(n int) int {
		return int(binary.BigEndian.Uint64([]byte(strings.Repeat("\x00", 8-n) + cut(n))))
	}
	m := api.Manifest{Stage: number(2), Pass: number(2)}
	for range number(1) {
		f := api.File{Name: cut(number(1))}
		f.Size, f.Count, f.Sum = number(1), number(8), uint32(number(4))
		m.Files = append(m.Files, f)
	}
	if short || rest != "" || !rightTold(m) {
		return api.Manifest{}, false
	}
	return m, true
}

// equal: field by field, told without what is built.
func equal(a, b api.Manifest) bool {
	if a.Stage != b.Stage || a.Pass != b.Pass || len(a.Files) != len(b.Files) {
		return false
	}
	for i, f := range a.Files {
		g := b.Files[i]
		if f.Name != g.Name || f.Size != g.Size || f.Count != g.Count || f.Sum != g.Sum {
			return false
		}
	}
	return true
}

func file(name string, size, count int, sum uint32) api.File {
	return api.File{Name: name, Size: size, Count: count, Sum: sum}
}

func of(stage, pass int, files ...api.File) api.Manifest {
	return api.Manifest{Stage: stage, Pass: pass, Files: files}
}

// many answers so many files, no two of one name, unlike one another.
func many(n int) []api.File {
	var l []api.File
	for i := range n {
		l = append(l, file("f."+string([]byte{byte('a' + i%26), byte('a' + i/26)}), 1+i%64, i*i, uint32(i)*0x01020305))
	}
	return l
}

func names() []string {
	return []string{"a", "z", "0", "9", ".", "..", "graph.10", "pairs.out", "abcdefghijklmnopqrstuvwx", "........................", strings.Repeat("9", 24)}
}

func noNames() []string {
	return []string{"", "A", "Z", "a ", " a", "a/b", "a-b", "a_b", "é", "\x00", "a\x00", "a\n", "\xff", "`", "{", ":", "/", "-", strings.Repeat("a", 25), strings.Repeat("a", 255), strings.Repeat("a", 256), strings.Repeat("a", 257), "abcdefghijklmnopqrstuvwé"}
}

func stages() []int { return []int{1, 2, 3, 4, 5, 6, 7} }

func noStages() []int {
	return []int{math.MinInt, -1 << 32, -7, -1, 0, 8, 9, 255, 256, 257, 65535, 65536, 65537, 1<<32 + 1, math.MaxInt}
}

func passes() []int { return []int{0, 1, 2, 63, 64, 255, 256, 257, 512, 999, 1000} }

func noPasses() []int {
	return []int{math.MinInt, -1 << 32, -1000, -1, 1001, 1002, 1024, 65535, 65536, 65537, 1 << 32, 1<<32 + 1, math.MaxInt}
}

func sizes() []int { return []int{1, 2, 8, 12, 17, 63, 64} }

func noSizes() []int {
	return []int{math.MinInt, -256, -64, -1, 0, 65, 66, 127, 128, 255, 256, 257, 1 << 32, 1<<32 + 1, math.MaxInt}
}

func counts() []int {
	return []int{0, 1, 255, 256, 1 << 20, 1 << 31, 1 << 32, 1<<62 - 1, 1 << 62}
}

func noCounts() []int {
	return []int{math.MinInt, math.MinInt + 1, -1 << 62, -1, 1<<62 + 1, math.MaxInt}
}

func sums() []uint32 { return []uint32{0, 1, 0x01020304, 1<<31 - 1, 1 << 31, 1<<32 - 1} }

// fit are manifests that may be, at the edges of each field.
func fit() []api.Manifest {
	var l []api.Manifest
	for _, stage := range stages() {
		for _, pass := range passes() {
			l = append(l, of(stage, pass), of(stage, pass, many(1+pass%16)...))
		}
	}
	for _, name := range names() {
		l = append(l, of(1, 0, file(name, 1, 0, 0)), of(7, 1000, file("b", 8, 2, 3), file(name, 64, 1<<62, 1<<32-1), file("c", 9, 4, 5)))
	}
	for _, size := range sizes() {
		for _, count := range counts() {
			for _, sum := range sums() {
				l = append(l, of(4, 9, file("graph.9", size, count, sum)))
			}
		}
	}
	for n := range 17 {
		l = append(l, of(3, n, many(n)...))
	}
	return append(l, of(6, 0, file("pairs.out", 8, 3, 9), file("graph.out", 17, 12, 1<<31)))
}

// unfit are manifests that may not be, each by one thing alone.
func unfit() []api.Manifest {
	var l []api.Manifest
	for _, stage := range noStages() {
		l = append(l, of(stage, 0), of(stage, 5, many(2)...))
	}
	for _, pass := range noPasses() {
		l = append(l, of(1, pass), of(7, pass, many(2)...))
	}
	for _, n := range []int{17, 18, 32, 128, 255, 256, 257, 272, 512} {
		l = append(l, of(1, 0, many(n)...))
	}
	var bad []api.File
	for _, name := range noNames() {
		bad = append(bad, file(name, 1, 2, 3))
	}
	for _, size := range noSizes() {
		bad = append(bad, file("bad", size, 2, 3))
	}
	for _, count := range noCounts() {
		bad = append(bad, file("bad", 1, count, 3))
	}
	for _, f := range bad {
		for _, n := range []int{0, 1, 15} { // wherever it stands
			l = append(l, of(2, 1, slices.Insert(many(n), n, f)...), of(2, 1, slices.Insert(many(n), n/2, f)...), of(2, 1, slices.Insert(many(n), 0, f)...))
		}
	}
	for _, n := range []int{2, 3, 5, 16} { // two of one name, wherever they stand
		for i := range n {
			for k := range i {
				l = append(l, of(5, 2, twice(n, i, k)...))
			}
		}
	}
	return append(l, api.Manifest{}, of(1, 0, file("a", 1, 1, 1), file("a", 1, 1, 1)))
}

// twice answers n files, of which i and k have one name, and nothing else that is alike.
func twice(n, i, k int) []api.File {
	l := many(n)
	l[i].Name = l[k].Name
	return l
}

// TestFit: what the tests below lean on: each of these lists is what it says.
func TestFit(t *testing.T) {
	for _, m := range fit() {
		if !rightTold(m) {
			t.Errorf("%v may not be", m)
		}
	}
	for _, m := range unfit() {
		if rightTold(m) {
			t.Errorf("%v may be", m)
		}
	}
}

// TestRight: P19.1, at the edges of each field, and beyond them.
func TestRight(t *testing.T) {
	for _, m := range fit() {
		if !Right(m) {
			t.Errorf("P19.1: Right(%v) = false", m)
		}
	}
	for _, m := range unfit() {
		if Right(m) {
			t.Errorf("P19.1: Right(%.200v) = true", m)
		}
	}
}

// TestRightLong: P19.1, of very many files.
func TestRightLong(t *testing.T) {
	m := of(1, 0, slices.Repeat(many(16), 1<<10)...)
	if Right(m) {
		t.Error("P19.1: Right of very many files = true")
	}
	if s, ok := Put(m); ok || s != "" {
		t.Errorf("P19.1: Put of very many files = %d bytes, %v", len(s), ok)
	}
}

func bothWays(t *testing.T, m api.Manifest, s string) {
	t.Helper()
	puts(t, "P19.1", m, s)
	gets(t, "P19.1", s, m)
}

func puts(t *testing.T, promise string, m api.Manifest, want string) {
	t.Helper()
	if got, ok := Put(m); !ok || got != want {
		t.Errorf("%s: Put(%v) = %x, %v, want %x", promise, m, got, ok, want)
	}
}

func gets(t *testing.T, promise, s string, want api.Manifest) {
	t.Helper()
	if got, ok := Get(s); !ok || !equal(got, want) {
		t.Errorf("%s: Get(%x) = %v, %v, want %v", promise, s, got, ok, want)
	}
}

func getsNot(t *testing.T, promise, s string) {
	t.Helper()
	if got, ok := Get(s); ok || got.Stage != 0 || got.Pass != 0 || len(got.Files) != 0 {
		t.Errorf("%s: Get(%.200x) of %d bytes = %v, %v, want none", promise, s, len(s), got, ok)
	}
}

// asTold: bytes are read just as the document tells.
func asTold(t *testing.T, s string) {
	t.Helper()
	if m, ok := told(s); ok {
		gets(t, "P19.1", s, m)
	} else {
		getsNot(t, "P19.1", s)
	}
}

// TestWritten: P19.1, manifests as they are written down.
func TestWritten(t *testing.T) {
	bothWays(t, of(1, 0), "MAN1\x00\x01\x00\x00\x00\xc4\x8f\x4d\x4f")
	bothWays(t, of(7, 1000), closed("MAN1\x00\x07\x03\xe8\x00"))
	bothWays(t, of(4, 258, file("graph.258", 17, 0x0102030405060708, 0x0a0b0c0d)),
		closed("MAN1\x00\x04\x01\x02\x01\x09graph.258\x11\x01\x02\x03\x04\x05\x06\x07\x08\x0a\x0b\x0c\x0d"))
	bothWays(t, of(3, 0, file("pairs.out", 8, 1<<62, 1), file("a", 64, 0, 1<<32-1)),
		closed("MAN1\x00\x03\x00\x00\x02\x09pairs.out\x08\x40\x00\x00\x00\x00\x00\x00\x00\x00\x00\x00\x01\x01a\x40\x00\x00\x00\x00\x00\x00\x00\x00\xff\xff\xff\xff"))
}

// TestPut: P19.1, the bytes of each that may be, none and false of each that may not.
func TestPut(t *testing.T) {
	if s, ok := Put(of(1, 0)); !ok || len(s) != 13 {
		t.Errorf("P19.1: Put of stage 1, no files: %d bytes, %v, want 13", len(s), ok)
	}
	for _, m := range fit() {
		puts(t, "P19.1", m, bytesTold(m))
	}
	for _, m := range unfit() {
		if s, ok := Put(m); ok || s != "" {
			t.Errorf("P19.1: Put(%.200v) = %x, %v, want none", m, s, ok)
		}
	}
}

// TestGet: P19.1, the manifest of its bytes; zero and false of what is written like one that may not be.
func TestGet(t *testing.T) {
	for _, m := range fit() {
		gets(t, "P19.1", bytesTold(m), m)
	}
	for _, m := range unfit() {
		asTold(t, bytesTold(m)) // some numbers' lowest bytes are those of another manifest
	}
}

// TestGetFields: P19.1, where a field tells what may not be, or more, or fewer, than there are.
func TestGetFields(t *testing.T) {
	head, entry := "MAN1\x00\x01\x00\x00", "\x01a\x02\x00\x00\x00\x00\x00\x00\x00\x03\x00\x00\x00\x04"
	other := strings.Replace(entry, "a", "b", 1)
	gets(t, "P19.1", closed(head+"\x02"+entry+other), of(1, 0, file("a", 2, 3, 4), file("b", 2, 3, 4)))
	for _, body := range []string{
		"MAN1\x00\x00\x00\x00\x00", "MAN1\x00\x08\x00\x00\x00", "MAN1\x01\x01\x00\x00\x00", "MAN1\x01\x00\x00\x00\x00",
		"MAN1\x00\x01\x03\xe9\x00", "MAN1\x00\x01\x04\x00\x00", "MAN1\x00\x01\xff\xff\x00",
		"MAN2\x00\x01\x00\x00\x00", "man1\x00\x01\x00\x00\x00", "MAN\x00\x00\x01\x00\x00\x00", "\x00\x00\x00\x00\x00\x01\x00\x00\x00", "NAM1\x00\x01\x00\x00\x00",
		head, head + "\x00\x00", head + "\x00" + entry, head + "\x01", head + "\x02" + entry, head + "\x01" + entry + other,
		head + "\x01" + entry + "\x00", head + "\x02" + entry + other[1:], head + "\x02" + entry + other[:len(other)-1],
		head + "\x02" + entry + entry,
		head + "\x01" + "\x00" + entry[2:], head + "\x01" + "\x02" + entry[1:], head + "\x01" + "\xff" + entry[1:], head + "\x01" + "\x0e" + entry[1:], head + "\x01" + "\x10" + entry[1:],
		head + "\x01" + "\x01A" + entry[2:], head + "\x01" + "\x01\x00" + entry[2:],
		head + "\x01" + "\x01a\x00" + entry[3:], head + "\x01" + "\x01a\x41" + entry[3:], head + "\x01" + "\x01a\xff" + entry[3:],
		head + "\x01" + "\x01a\x01\x40\x00\x00\x00\x00\x00\x00\x01" + entry[11:], head + "\x01" + "\x01a\x01\x80\x00\x00\x00\x00\x00\x00\x00" + entry[11:], head + "\x01" + "\x01a\x01\xff\xff\xff\xff\xff\xff\xff\xff" + entry[11:],
	} {
		getsNot(t, "P19.1", closed(body))
	}
}

// TestGetFiles: P19.1, whatever number of files is told, of however many there are.
func TestGetFiles(t *testing.T) {
	for n := range 40 {
		body := bodyTold(of(2, 0, many(n)...))
		for k := range 256 {
			s := closed(body[:8] + big(uint64(k), 1) + body[9:])
			if k == n && n <= 16 {
				gets(t, "P19.1", s, of(2, 0, many(n)...))
			} else {
				getsNot(t, "P19.1", s)
			}
		}
	}
	getsNot(t, "P19.1", closed("MAN1\x00\x02\x00\x00\xff"+strings.Repeat("\x00", 255*14)))
}

// TestGetBytes: P19.1, whatever stands in each byte, closed anew.
func TestGetBytes(t *testing.T) {
	for _, m := range []api.Manifest{of(1, 0), of(6, 1000, file("a", 1, 0, 0)), of(2, 3, file("ab", 64, 1<<62, 5), file("ac", 9, 255, 1<<31)), of(7, 0, file(strings.Repeat("x", 24), 8, 1<<40, 1<<32-1))} {
		body := []byte(bodyTold(m))
		for at := range body {
			was := body[at]
			for b := range 256 {
				body[at] = byte(b)
				asTold(t, closed(string(body)))
			}
			body[at] = was
		}
	}
}

// TestGetSum: P19.1, none of what is not closed by its sum.
func TestGetSum(t *testing.T) {
	for _, m := range []api.Manifest{of(1, 0), of(6, 3, many(3)...), of(7, 1000, many(16)...)} {
		body, s := bodyTold(m), bytesTold(m)
		tail := s[len(body):]
		getsNot(t, "P19.1", body)
		getsNot(t, "P19.1", body+"\x00\x00\x00\x00")
		getsNot(t, "P19.1", body+"\xff\xff\xff\xff")
		getsNot(t, "P19.1", body+string([]byte{tail[3], tail[2], tail[1], tail[0]}))
		getsNot(t, "P19.1", "MAN1"+closed(body[4:])) // the mark is closed, too
		for at := range s {
			getsNot(t, "P19.1", s[:at])
			getsNot(t, "P19.1", s[at+1:])
			getsNot(t, "P19.1", s[:at]+s[at+1:])
		}
		for _, more := range []string{"\x00", "a", "\n", "\xff\xff\xff\xff", tail, s} {
			getsNot(t, "P19.1", s+more)
			getsNot(t, "P19.1", more+s)
			getsNot(t, "P19.1", closed(s+more)) // closed once more
			getsNot(t, "P19.1", closed(body+more))
		}
	}
	getsNot(t, "P19.1", closed(""))
	for n := range 300 {
		for _, b := range []string{"\x00", "M", "\xff"} {
			getsNot(t, "P19.1", strings.Repeat(b, n))
			getsNot(t, "P19.1", closed(strings.Repeat(b, n)))
			getsNot(t, "P19.1", closed("MAN1\x00\x01\x00\x00\x10"+strings.Repeat(b, n)))
		}
	}
}

// rolled are numbers that look like lots, always the same ones of a seed.
type rolled uint64

func (r *rolled) below(n int) int {
	*r = *r*6364136223846793005 + 1442695040888963407
	return int(uint64(*r)>>33) % n
}

func (r *rolled) bits() uint32 { return uint32(r.below(1<<16))<<16 | uint32(r.below(1<<16)) }

// TestGetRolled: P19.1, of bodies in which some bytes are exchanged, put in, or left out, all is as the document tells.
func TestGetRolled(t *testing.T) {
	r := rolled(1)
	l := fit()
	seen := 0
	for range 20000 {
		body := []byte(bodyTold(l[r.below(len(l))]))
		for range 1 + r.below(3) {
			at := r.below(len(body))
			switch r.below(4) {
			case 0:
				body[at] = byte(r.below(256))
			case 1:
				body[at] = "\x00\x01\x02\x10az."[r.below(7)]
			case 2:
				body = slices.Insert(body, at, byte(r.below(256)))
			default:
				body = slices.Delete(body, at, at+1)
			}
			if len(body) == 0 {
				break
			}
		}
		s := closed(string(body))
		if _, ok := told(s); ok {
			seen++
		}
		asTold(t, s)
	}
	if seen < 1000 || seen > 19000 {
		t.Errorf("%d of 20000 bodies tell a manifest", seen)
	}
}

// TestSame: P19.1, field by field, also of manifests that may not be.
func TestSame(t *testing.T) {
	full := func() api.Manifest { return of(2, 3, file("a", 4, 5, 6), file("b", 7, 8, 9)) }
	changes := []func(m *api.Manifest){
		func(m *api.Manifest) { m.Stage++ },
		func(m *api.Manifest) { m.Stage += 1 << 16 },
		func(m *api.Manifest) { m.Pass-- },
		func(m *api.Manifest) { m.Pass = -3 },
		func(m *api.Manifest) { m.Stage, m.Pass = m.Pass, m.Stage },
		func(m *api.Manifest) { m.Files = nil },
		func(m *api.Manifest) { m.Files = m.Files[:1] },
		func(m *api.Manifest) { m.Files = m.Files[1:] },
		func(m *api.Manifest) { m.Files = append(m.Files, api.File{}) },
		func(m *api.Manifest) { m.Files = append(m.Files, m.Files[1]) },
		func(m *api.Manifest) { slices.Reverse(m.Files) },
		func(m *api.Manifest) { m.Files[0].Name = "b" },
		func(m *api.Manifest) { m.Files[0].Name = "A" },
		func(m *api.Manifest) { m.Files[1].Name = "" },
		func(m *api.Manifest) { m.Files[0].Size++ },
		func(m *api.Manifest) { m.Files[1].Size += 256 },
		func(m *api.Manifest) { m.Files[0].Count = -m.Files[0].Count },
		func(m *api.Manifest) { m.Files[1].Count++ },
		func(m *api.Manifest) { m.Files[0].Sum++ },
		func(m *api.Manifest) { m.Files[1].Sum ^= 1 << 31 },
	}
	for i, change := range changes {
		m := full()
		change(&m)
		if Same(m, full()) || Same(full(), m) {
			t.Errorf("P19.1: change %d: Same of %v and %v", i, m, full())
		}
		again := full()
		change(&again)
		if !Same(m, again) || !Same(m, m) {
			t.Errorf("P19.1: change %d: Same(%v) of itself = false", i, m)
		}
	}
}

// TestSameAll: P19.1, of each two: those that may be, and those that may not.
func TestSameAll(t *testing.T) {
	l := append(fit(), unfit()...)
	for i, a := range l {
		for k := i % 7; k < len(l); k += 7 {
			if got, want := Same(a, l[k]), equal(a, l[k]); got != want {
				t.Fatalf("P19.1: Same(%.200v, %.200v) = %v", a, l[k], got)
			}
		}
		if !Same(a, a) {
			t.Errorf("P19.1: Same(%.200v) of itself = false", a)
		}
	}
	if !Same(of(1, 0), of(1, 0, []api.File{}...)) || !Same(api.Manifest{Files: []api.File{}}, api.Manifest{}) {
		t.Error("P19.1: Same: an empty list is not none")
	}
}

// TestFind: P19.2, the first file of a name, and true; zero and false of another name.
func TestFind(t *testing.T) {
	l := []api.File{file("a", 1, 2, 3), file("ab", 4, 5, 6), file("a", 7, 8, 9), file("", -1, -2, 0), file("B", 100, 1, 1), file("", 1, 1, 1), file("é", 0, 0, 1)}
	m := of(0, -1, l...) // one that may not be has files, too
	for name, want := range map[string]int{"a": 0, "ab": 1, "": 3, "B": 4, "é": 6} {
		if got, ok := Find(m, name); !ok || got != l[want] {
			t.Errorf("P19.2: Find of %q = %v, %v, want %v", name, got, ok, l[want])
		}
	}
	for _, name := range []string{"b", "A", "abc", "aa", "a ", "a\x00", "e", "\xc3", strings.Repeat("a", 1000)} {
		if got, ok := Find(m, name); ok || got != (api.File{}) {
			t.Errorf("P19.2: Find of %q = %v, %v, want none", name, got, ok)
		}
	}
	for _, name := range []string{"", "a"} {
		for _, none := range []api.Manifest{{}, of(1, 0), {Stage: 1, Files: []api.File{}}} {
			if got, ok := Find(none, name); ok || got != (api.File{}) {
				t.Errorf("P19.2: Find of %q in no files = %v, %v", name, got, ok)
			}
		}
	}
	full := of(7, 0, many(16)...)
	for _, f := range many(16) {
		if got, ok := Find(full, f.Name); !ok || got != f {
			t.Errorf("P19.2: Find of %q = %v, %v, want %v", f.Name, got, ok, f)
		}
	}
}

// with asks With, and whether it left what it was given as it was.
func with(t *testing.T, m api.Manifest, f api.File, want api.Manifest) {
	t.Helper()
	was := api.Manifest{Stage: m.Stage, Pass: m.Pass, Files: slices.Clone(m.Files)}
	got := With(m, f)
	if !equal(got, want) {
		t.Errorf("P19.2: With(%v, %v) = %v, want %v", m, f, got, want)
	}
	if !equal(m, was) {
		t.Errorf("0.5: With changed %v into %v", was, m)
	}
}

// TestWith: P19.2, in the place of the first file of its name, or behind all.
func TestWith(t *testing.T) {
	a, b, c := file("a", 1, 2, 3), file("b", 4, 5, 6), file("c", 7, 8, 9)
	a2, b2 := file("a", 10, 11, 12), file("b", 13, 14, 15)
	with(t, of(1, 0), a, of(1, 0, a))
	with(t, of(2, 9, a), b, of(2, 9, a, b))
	with(t, of(2, 9, b), a, of(2, 9, b, a))
	with(t, of(2, 9, a), a2, of(2, 9, a2))
	with(t, of(2, 9, a), a, of(2, 9, a))
	with(t, of(3, 1, a, b, c), a2, of(3, 1, a2, b, c))
	with(t, of(3, 1, a, b, c), b2, of(3, 1, a, b2, c))
	with(t, of(3, 1, c, b, a), a2, of(3, 1, c, b, a2))
	with(t, of(3, 1, b, a, c, a, b), a2, of(3, 1, b, a2, c, a, b)) // just the first one
	with(t, of(3, 1, a, a), b, of(3, 1, a, a, b))
	with(t, of(3, 1, a), file("A", 1, 1, 1), of(3, 1, a, file("A", 1, 1, 1)))
	with(t, of(3, 1, a), file("aa", 1, 1, 1), of(3, 1, a, file("aa", 1, 1, 1)))
}

// TestWithUnfit: P19.2, also of manifests, and of files, that may not be.
func TestWithUnfit(t *testing.T) {
	a, none := file("a", 1, 2, 3), api.File{}
	with(t, api.Manifest{}, none, of(0, 0, none))
	with(t, of(-5, 1001, a), none, of(-5, 1001, a, none))
	with(t, of(8, -1, none, a, none), file("", -1, -2, 9), of(8, -1, file("", -1, -2, 9), a, none))
	with(t, of(1, 0, many(16)...), a, of(1, 0, append(many(16), a)...))
	with(t, of(1, 0, many(300)...), a, of(1, 0, append(many(300), a)...))
	for _, m := range unfit() {
		l := slices.Clone(m.Files)
		if at := slices.IndexFunc(l, func(f api.File) bool { return f.Name == "bad" }); at >= 0 {
			l[at] = file("bad", 5, 6, 7)
		} else {
			l = append(l, file("bad", 5, 6, 7))
		}
		with(t, m, file("bad", 5, 6, 7), of(m.Stage, m.Pass, l...))
	}
}

// TestWithFind: P19.2, what was put in is found, and nothing else is another one.
func TestWithFind(t *testing.T) {
	for n := range 17 {
		for _, name := range []string{"f.aa", "f.ca", "f.pa", "new"} {
			f := file(name, 33, 44, 55)
			m := With(of(4, 2, many(n)...), f)
			if got, ok := Find(m, name); !ok || got != f {
				t.Errorf("P19.2: Find(%q) behind With = %v, %v", name, got, ok)
			}
			for _, other := range many(n) {
				if got, ok := Find(m, other.Name); other.Name != name && (!ok || got != other) {
					t.Errorf("P19.2: Find(%q) behind With of %q = %v, %v", other.Name, name, got, ok)
				}
			}
		}
	}
}

// TestBack: P19.3, a manifest comes back, and its bytes do.
func TestBack(t *testing.T) {
	for _, m := range fit() {
		s, ok := Put(m)
		if !ok {
			t.Errorf("P19.3: Put(%v) = false", m)
		}
		gets(t, "P19.3", s, m)
		again, _ := Get(s)
		puts(t, "P19.3", again, s)
		if !Same(again, m) {
			t.Errorf("P19.3: %v comes back as %v", m, again)
		}
	}
}

// turned answers s, of whose bits, from the bit at on, those that bits has are turned (of a byte the lowest is the first).
func turned(s string, at int, bits uint32) string {
	all := []byte(s)
	for i := range 32 {
		if bits>>i&1 == 1 && at+i < 8*len(all) {
			all[(at+i)/8] ^= 1 << ((at + i) % 8)
		}
	}
	return string(all)
}

// patterns are bits of which the lowest is set, so that something is turned wherever it is put.
func patterns(r *rolled) []uint32 {
	l := []uint32{1, 3, 5, 0x101, 0x10001, 1<<31 | 1, 1<<32 - 1, 0xedb88321, 0xff, 0xffff, 0xffffff}
	for range 10 {
		l = append(l, r.bits()|1)
	}
	return l
}

// TestTurned: P19.3, no manifest of bytes of which some bits are turned, all within 32 neighbouring ones.
func TestTurned(t *testing.T) {
	r := rolled(3)
	for _, m := range []api.Manifest{of(1, 0), of(2, 1000, file("a", 1, 0, 0)), of(6, 0, file("pairs.out", 8, 3, 9), file("graph.out", 17, 12, 1<<31)), of(4, 7, many(16)...)} {
		s, _ := Put(m)
		gets(t, "P19.3", turned(s, 0, 0), m)
		for at := range 8 * len(s) {
			for _, bits := range patterns(&r) {
				getsNot(t, "P19.3", turned(s, at, bits))
			}
		}
	}
}

// TestTurnedAll: P19.3, each two bits, and each window of so few bits that all can be tried.
func TestTurnedAll(t *testing.T) {
	s, _ := Put(of(3, 5, file("ab", 2, 3, 4)))
	for at := range 8 * len(s) {
		for i := 1; i < 32; i++ {
			getsNot(t, "P19.3", turned(s, at, 1<<i|1))
		}
		for bits := uint32(1); bits < 1<<8; bits += 2 {
			getsNot(t, "P19.3", turned(s, at, bits))
		}
	}
}

// view answers a text that is those bytes, and changes with them.
func view(l []byte) string { return unsafe.String(unsafe.SliceData(l), len(l)) }

// spoil turns all of the bytes.
func spoil(l []byte) {
	for i := range l {
		l[i] ^= 0xff
	}
}

// TestOwnGet: an answer shares no memory with what was handed in.
func TestOwnGet(t *testing.T) {
	m := of(4, 7, many(5)...)
	s := []byte(bytesTold(m))
	got, ok := Get(view(s))
	spoil(s)
	if !ok || !equal(got, m) {
		t.Errorf("what was read hangs on its bytes: %v", got)
	}
}

// TestOwnFind: as TestOwnGet, of Find.
func TestOwnFind(t *testing.T) {
	name, asked := []byte("ab"), []byte("ab")
	got, ok := Find(of(1, 0, file(view(name), 1, 2, 3)), view(asked))
	spoil(name)
	spoil(asked)
	if !ok || got != file("ab", 1, 2, 3) {
		t.Errorf("what was found hangs on what was handed in: %v, %v", got, ok)
	}
}

// TestOwnWith: as TestOwnGet, of With, whatever room the list has behind it.
func TestOwnWith(t *testing.T) {
	for _, name := range []string{"f.aa", "f.ca", "new"} {
		first, added := []byte("f.aa"), []byte(name)
		l := append(make([]api.File, 0, 10), many(3)...)
		l[0].Name = view(first)
		m := of(1, 2, l...)
		want := With(of(1, 2, many(3)...), file(name, 9, 9, 9))
		one := With(m, file(view(added), 9, 9, 9))
		other := With(m, file("other", 8, 8, 8))
		if l[:4][3] != (api.File{}) {
			t.Errorf("0.5: With wrote behind the list: %v", l[:4])
		}
		spoil(first)
		spoil(added)
		for i := range l {
			l[i] = api.File{}
		}
		other.Files[0].Size = 60
		if !equal(one, want) {
			t.Errorf("what With of %q answered hangs on something else: %v, want %v", name, one, want)
		}
	}
}

// TestAgain: what was asked ahead does not matter, nor what was wrong then.
func TestAgain(t *testing.T) {
	good, bad := of(2, 1, many(4)...), of(2, 1, many(17)...)
	for range 3 {
		puts(t, "P19.1", good, bytesTold(good))
		getsNot(t, "P19.1", bytesTold(bad))
		gets(t, "P19.1", bytesTold(good), good)
		if s, ok := Put(bad); ok || s != "" {
			t.Errorf("P19.1: Put of 17 files = %x, %v", s, ok)
		}
	}
}
