package fs

import (
	"slices"
	"sort"
	"strings"
	"testing"

	"chainman/api"
)

// plainFile is a file of a plain disk: what is kept of it, and what waits.
type plainFile struct{ name, kept, waits string }

// plain is a disk as the document tells it: a list of files, in the names' order.
type plain struct {
	room, calls int
	files       []plainFile
	armed, down bool
	ahead       int
}

func (p *plain) at(name string) int {
	for i, f := range p.files {
		if f.name == name {
			return i
		}
	}
	return -1
}

func (p *plain) used() int {
	n := 0
	for _, f := range p.files {
		n += len(f.kept + f.waits)
	}
	return n
}

func (p *plain) sort() {
	sort.Slice(p.files, func(i, j int) bool { return p.files[i].name < p.files[j].name })
}

func (p *plain) rise(keep []int) {
	for i := range p.files {
		f := &p.files[i]
		n := 0
		if i < len(keep) && keep[i] > 0 {
			n = keep[i]
		}
		if n > len(f.waits) {
			n = len(f.waits)
		}
		f.kept, f.waits = f.kept+f.waits[:n], ""
	}
	p.armed, p.down = false, false
}

func (p *plain) turn(name string, at int, bits uint32) bool {
	i := p.at(name)
	if i < 0 || at < 0 {
		return false
	}
	f := &p.files[i]
	all := bitwise(f.kept+f.waits, at, bits)
	f.kept, f.waits = all[:len(f.kept)], all[len(f.kept):]
	return true
}

// act is what is done to a disk, with all that some kind of it may ask for.
type act struct {
	kind     string
	name, to string
	at, n    int
	keep     []int
}

// answer is what any act may answer.
type answer struct {
	s string
	n int
	e api.Errno
}

func (p *plain) do(a act) answer {
	switch a.kind {
	case "Arm":
		p.armed, p.ahead = a.n >= 0, a.n
		return answer{}
	case "Rise":
		p.rise(a.keep)
		return answer{}
	case "Turn":
		if p.turn(a.name, a.at, uint32(a.n)) {
			return answer{n: 1}
		}
		return answer{}
	}
	if a.kind != "List" && !plainName(a.name) || a.kind == "Rename" && !plainName(a.to) || a.kind == "Read" && (a.at < 0 || a.n < 0) {
		return answer{e: api.ErrArg}
	}
	p.calls++
	if p.armed && p.ahead == 0 {
		p.down = true
	}
	p.ahead--
	if p.down {
		return answer{e: api.ErrDown}
	}
	return p.call(a)
}

func plainName(s string) bool {
	return len(s) >= 1 && len(s) <= 24 && strings.Trim(s, "abcdefghijklmnopqrstuvwxyz0123456789.") == ""
}

// call does a call that does not fall.
func (p *plain) call(a act) answer {
	i := p.at(a.name)
	switch {
	case a.kind == "List":
		l := ""
		for _, f := range p.files {
			l += f.name + "\n"
		}
		return answer{s: l}
	case a.kind == "Create" && i >= 0:
		return answer{e: api.ErrThere}
	case a.kind == "Create" && len(p.files) == 200:
		return answer{e: api.ErrFull}
	case a.kind == "Create":
		p.files = append(p.files, plainFile{name: a.name})
		p.sort()
		return answer{}
	case i < 0:
		return answer{e: api.ErrNone}
	}
	return p.known(a, i)
}

// known does a call of a file that is there.
func (p *plain) known(a act, i int) answer {
	f := &p.files[i]
	all := f.kept + f.waits
	switch a.kind {
	case "Append":
		if s := letters(a.n); p.used()+len(s) <= p.room {
			f.waits += s
			return answer{}
		}
		return answer{e: api.ErrFull}
	case "Read":
		if a.at <= len(all) && a.n <= len(all[a.at:]) {
			return answer{s: all[a.at:][:a.n]}
		}
		return answer{e: api.ErrRange}
	case "Size":
		return answer{n: len(all)}
	case "Sync":
		f.kept, f.waits = all, ""
	case "Rename":
		f.name = a.to
		own := *f
		p.files = slices.DeleteFunc(p.files, func(g plainFile) bool { return g.name == a.to })
		p.files = append(p.files, own)
		p.sort()
	case "Remove":
		p.files = slices.Delete(p.files, i, i+1)
	}
	return answer{}
}

// letters are so many bytes that are mostly unlike those of other numbers.
func letters(n int) string {
	all := make([]byte, max(n, 0)%9)
	for i := range all {
		all[i] = byte(n*31 + i*7)
	}
	return string(all)
}

// do does an act to a disk.
func do(d *Disk, a act) answer {
	switch a.kind {
	case "Arm":
		d.Arm(a.n)
	case "Rise":
		d.Rise(a.keep)
	case "Turn":
		if d.Turn(a.name, a.at, uint32(a.n)) {
			return answer{n: 1}
		}
	case "Create":
		return answer{e: d.Create(a.name)}
	case "Append":
		return answer{e: d.Append(a.name, letters(a.n))}
	case "Read":
		s, e := d.Read(a.name, a.at, a.n)
		return answer{s: s, e: e}
	case "Size":
		n, e := d.Size(a.name)
		return answer{n: n, e: e}
	case "Sync":
		return answer{e: d.Sync(a.name)}
	case "Rename":
		return answer{e: d.Rename(a.name, a.to)}
	case "Remove":
		return answer{e: d.Remove(a.name)}
	case "List":
		l, e := d.List()
		s := ""
		for _, name := range l {
			s += name + "\n"
		}
		return answer{s: s, e: e}
	}
	return answer{}
}

// dice are numbers that look like lots, always the same ones of a seed.
type dice uint64

func (r *dice) below(n int) int {
	*r = *r*6364136223846793005 + 1442695040888963407
	return int(uint64(*r)>>33) % n
}

func (r *dice) of(l ...string) string { return l[r.below(len(l))] }

func (r *dice) act() act {
	a := act{name: r.of("a", "b", "c", "d.e", "a", "b", "B", ""), to: r.of("a", "b", "c", "d.e", "b", "é"), at: r.below(40) - 2, n: r.below(20) - 2}
	a.kind = r.of("Create", "Create", "Create", "Append", "Append", "Append", "Append", "Read", "Read", "Size", "Sync", "Rename", "Remove", "List", "Arm", "Rise", "Turn")
	for range r.below(6) {
		a.keep = append(a.keep, r.below(9)-2)
	}
	return a
}

// TestWalk: P4.1 to P4.4, a disk, and copies of it, beside a plain one, act by act.
func TestWalk(t *testing.T) {
	seen := map[string]int{}
	for seed := range 300 {
		r := dice(seed)
		room := r.below(60)
		d, p := made(t, room), &plain{room: room}
		for step := range 300 {
			if r.below(20) == 0 {
				d = d.Clone()
			}
			a := r.act()
			got, wanted := do(d, a), p.do(a)
			if got != wanted {
				t.Fatalf("P4.2: seed %d, step %d: %v answers %v, want %v", seed, step, a, got, wanted)
			}
			if d.Calls() != p.calls || d.Used() != p.used() {
				t.Fatalf("P4.4: seed %d, step %d: behind %v %d calls and %d bytes, want %d and %d", seed, step, a, d.Calls(), d.Used(), p.calls, p.used())
			}
			seen[a.kind+" "+string(rune('a'+got.e))]++
		}
	}
	if len(seen) < 30 { // the walk comes to errors of all kinds, or it shows little
		t.Errorf("the walk came to %d answers: %v", len(seen), seen)
	}
}

// renewed is what is done to have a file anew under its name: it is written beside it, synced, and renamed.
func renewed(d *Disk) []func() api.Errno {
	return []func() api.Errno{
		func() api.Errno { return d.Create("new") },
		func() api.Errno { return d.Append("new", "ne") },
		func() api.Errno { return d.Append("new", "w bytes") },
		func() api.Errno { return d.Sync("new") },
		func() api.Errno { return d.Append("other", "56") },
		func() api.Errno { return d.Rename("new", "old") },
		func() api.Errno { return d.Append("other", "78") },
		func() api.Errno { return d.Sync("other") },
	}
}

// all answers the bytes of the disk's files, by their names.
func all(t *testing.T, d *Disk) map[string]string {
	t.Helper()
	files := map[string]string{}
	for _, name := range names(t, d) {
		n, _ := d.Size(name)
		files[name], _ = d.Read(name, 0, n)
	}
	return files
}

// TestFalls: P4.5, behind a fall at any call, whatever stays: what was kept is there, and the file that was renamed is wholly there, or under its old name.
func TestFalls(t *testing.T) {
	for n := range 9 {
		for stay := range 10 {
			d := made(t, 100)
			add(t, d, "old", "old bytes", "")
			add(t, d, "other", "12", "34")
			d.Arm(n)
			done := 0
			for _, step := range renewed(d) {
				if step() == api.OK {
					done++
				}
			}
			if done != min(n, 8) {
				t.Fatalf("P4.3: armed with %d, %d calls were done", n, done)
			}
			d.Rise([]int{stay, stay, stay})
			fallen(t, all(t, d), n, stay)
		}
	}
}

// fallen fails the test, if what is there behind n calls and a fall is not what the document promises.
func fallen(t *testing.T, files map[string]string, n, stay int) {
	t.Helper()
	old, fresh, other := "old bytes", "new bytes", "12345678"
	there := n >= 1
	switch {
	case n < 2:
		fresh = ""
	case n == 2:
		fresh = fresh[:min(stay, 2)]
	case n == 3:
		fresh = fresh[:min(stay, 9)]
	case n > 5:
		old, fresh, there = fresh, "", false
	}
	if got, ok := files["new"]; ok != there || got != fresh {
		t.Errorf("P4.5: behind %d calls, with %d that stay, new is %q, %v", n, stay, got, ok)
	}
	if got := files["old"]; got != old {
		t.Errorf("P4.5: behind %d calls, with %d that stay, old is %q, want %q", n, stay, got, old)
	}
	waits := 2
	switch {
	case n >= 7:
		waits = 6
	case n >= 5:
		waits = 4
	}
	if n < 8 {
		other = other[:2+min(stay, waits)]
	}
	if got := files["other"]; got != other {
		t.Errorf("P4.5: behind %d calls, with %d that stay, other is %q, want %q", n, stay, got, other)
	}
}

// TestKeptStays: P4.5, of a walk, wherever it falls: of what was kept nothing is lost.
func TestKeptStays(t *testing.T) {
	for seed := range 300 {
		r := dice(seed)
		d, p := made(t, 200), &plain{room: 200}
		d.Arm(r.below(80))
		for range 80 {
			a := r.act()
			if a.kind == "Arm" || a.kind == "Rise" || a.kind == "Turn" {
				continue
			}
			if do(d, a).e != api.ErrDown {
				p.do(a)
			}
		}
		d.Rise(nil)
		files := all(t, d)
		if len(files) != len(p.files) {
			t.Errorf("P4.5: seed %d: %d files, want %d", seed, len(files), len(p.files))
		}
		for _, f := range p.files {
			if got, ok := files[f.name]; !ok || got != f.kept {
				t.Errorf("P4.5: seed %d: %s is %q, %v, want %q", seed, f.name, got, ok, f.kept)
			}
		}
	}
}
