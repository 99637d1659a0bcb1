package stage

import (
	"fmt"
	"maps"
	"math"
	"slices"
	"strings"
	"testing"

	"chainman/api"
	"chainman/manifest"
)

// of answers a step.
func of(stage, pass int) Step { return Step{Stage: stage, Pass: pass} }

// path answers what is done of so many rounds, one behind the other, if the last one is of that pass: the document's words as a list.
func path(last int) []Step {
	l := []Step{of(0, 0), of(1, 0), of(2, 0), of(3, 0)}
	for p := 1; p < last; p++ {
		l = append(l, of(4, p))
	}
	return append(l, of(5, last), of(6, 0), of(7, 0))
}

// rightTold answers which steps may be done of so many rounds: those of the paths, whichever round is the last.
func rightTold(rounds int) map[Step]bool {
	all := map[Step]bool{}
	if rounds > 64 {
		return all
	}
	for last := 1; last <= rounds; last++ {
		for _, s := range path(last) {
			all[s] = true
		}
	}
	return all
}

// numbers are numbers about those that may be a stage or a pass, and far from them.
func numbers() []int {
	l := []int{math.MinInt, math.MinInt + 1, math.MinInt32, -1 << 16, -256, 127, 128, 254, 255, 256, 257, 511, 998, 999, 1000, 1001, 1002, 65535, 65536, 65537, 1 << 31, 1 << 32, 1<<32 + 1, math.MaxInt - 1, math.MaxInt}
	for n := -9; n <= 70; n++ {
		l = append(l, n)
	}
	return l
}

// steps are steps of all kinds, those that may be done among them.
func steps() []Step {
	var l []Step
	for _, stage := range numbers() {
		for _, pass := range numbers() {
			l = append(l, of(stage, pass))
		}
	}
	return l
}

// TestRight: P21.1, of all kinds of steps and rounds: just those of the paths.
func TestRight(t *testing.T) {
	for _, rounds := range numbers() {
		wanted := rightTold(rounds)
		for _, s := range steps() {
			if got := Right(s, rounds); got != wanted[s] {
				t.Fatalf("P21.1: Right(%v, %d) = %v, want %v", s, rounds, got, wanted[s])
			}
		}
	}
}

// TestRightEdges: P21.1, the edges that the chapter names.
func TestRightEdges(t *testing.T) {
	for _, x := range []struct {
		stage, pass, rounds int
		wanted              bool
	}{
		{0, 0, 1, true}, {0, 0, 64, true}, {0, 0, 0, false}, {0, 0, 65, false}, {0, 0, -1, false}, {0, 1, 9, false}, {0, -1, 9, false},
		{api.StageCells, 0, 1, true}, {api.StageCells, 1, 9, false}, {api.StagePairs, 0, 64, true}, {api.StagePairs, 1, 9, false},
		{api.StageStart, 0, 1, true}, {api.StageStart, 1, 9, false}, {api.StageStart, 0, 65, false},
		{api.StageRound, 0, 9, false}, {api.StageRound, 1, 1, false}, {api.StageRound, 1, 2, true}, {api.StageRound, 8, 9, true}, {api.StageRound, 9, 9, false}, {api.StageRound, 63, 64, true}, {api.StageRound, 64, 64, false}, {api.StageRound, 64, 65, false},
		{api.StageCalm, 0, 9, false}, {api.StageCalm, 1, 1, true}, {api.StageCalm, 2, 1, false}, {api.StageCalm, 9, 9, true}, {api.StageCalm, 64, 64, true}, {api.StageCalm, 65, 64, false}, {api.StageCalm, 65, 65, false}, {api.StageCalm, 1, 0, false}, {api.StageCalm, 1, 65, false},
		{api.StageMirror, 0, 1, true}, {api.StageMirror, 1, 9, false}, {api.StageDone, 0, 64, true}, {api.StageDone, 1, 9, false}, {api.StageDone, 0, 0, false},
		{8, 0, 9, false}, {-1, 0, 9, false}, {-1, -1, 9, false}, {math.MinInt, 0, 9, false}, {api.StageRound, math.MinInt, 9, false},
	} {
		if got := Right(of(x.stage, x.pass), x.rounds); got != x.wanted {
			t.Errorf("P21.1: Right({%d %d}, %d) = %v, want %v", x.stage, x.pass, x.rounds, got, x.wanted)
		}
	}
}

// goes is what comes next.
type goes struct {
	to Step
	ok bool
}

// nextTold answers what comes next behind each step of so many rounds. Where the job is told to stop, the round that comes is the last one; else that is the last that may be.
func nextTold(rounds int, stop bool) map[Step]goes {
	all := map[Step]goes{}
	for s := range rightTold(rounds) {
		last := rounds
		if stop && (s.Stage == 3 || s.Stage == 4) {
			last = s.Pass + 1
		}
		if s.Stage == 5 {
			last = s.Pass
		}
		l := path(last)
		if i := slices.Index(l, s); i+1 < len(l) {
			all[s] = goes{l[i+1], true}
		}
	}
	return all
}

// TestNext: P21.1, of all kinds of steps and rounds.
func TestNext(t *testing.T) {
	for _, rounds := range numbers() {
		for _, stop := range []bool{false, true} {
			wanted := nextTold(rounds, stop)
			for _, s := range steps() {
				if to, ok := Next(s, rounds, stop); to != wanted[s].to || ok != wanted[s].ok {
					t.Fatalf("P21.1: Next(%v, %d, %v) = %v, %v, want %v", s, rounds, stop, to, ok, wanted[s])
				}
			}
		}
	}
}

// TestNextEdges: P21.1, the chapter's example, and the edges that it names.
func TestNextEdges(t *testing.T) {
	for _, x := range []struct {
		stage, pass, rounds int
		stop                bool
		to                  Step
		ok                  bool
	}{
		{0, 0, 1, false, of(api.StageCells, 0), true},
		{0, 0, 64, true, of(api.StageCells, 0), true},
		{api.StageCells, 0, 5, true, of(api.StagePairs, 0), true},
		{api.StagePairs, 0, 5, true, of(api.StageStart, 0), true},
		{api.StageStart, 0, 1, false, of(api.StageCalm, 1), true},
		{api.StageStart, 0, 1, true, of(api.StageCalm, 1), true},
		{api.StageStart, 0, 2, false, of(api.StageRound, 1), true},
		{api.StageStart, 0, 2, true, of(api.StageCalm, 1), true},
		{api.StageRound, 1, 2, false, of(api.StageCalm, 2), true},
		{api.StageRound, 1, 3, false, of(api.StageRound, 2), true},
		{api.StageRound, 1, 3, true, of(api.StageCalm, 2), true},
		{api.StageRound, 62, 64, false, of(api.StageRound, 63), true},
		{api.StageRound, 63, 64, false, of(api.StageCalm, 64), true},
		{api.StageCalm, 3, 9, false, of(api.StageMirror, 0), true},
		{api.StageCalm, 64, 64, true, of(api.StageMirror, 0), true},
		{api.StageMirror, 0, 9, true, of(api.StageDone, 0), true},
		{api.StageDone, 0, 9, false, Step{}, false},
		{api.StageDone, 0, 9, true, Step{}, false},
		{0, 0, 0, false, Step{}, false},
		{0, 0, 65, false, Step{}, false},
		{api.StageRound, 2, 2, false, Step{}, false},
		{api.StageRound, 0, 2, false, Step{}, false},
		{api.StageCells, 1, 2, false, Step{}, false},
		{api.StageRound, math.MaxInt, math.MaxInt, false, Step{}, false},
		{8, 0, 2, false, Step{}, false},
		{-1, 0, 2, false, Step{}, false},
	} {
		if to, ok := Next(of(x.stage, x.pass), x.rounds, x.stop); to != x.to || ok != x.ok {
			t.Errorf("P21.1: Next({%d %d}, %d, %v) = %v, %v, want %v, %v", x.stage, x.pass, x.rounds, x.stop, to, ok, x.to, x.ok)
		}
	}
}

// nameTold is the name of a graph of that pass.
func nameTold(pass int) string { return fmt.Sprintf("graph.%d", pass) }

// filesTold answers the files of each stage, of that pass, as the chapter's words tell them.
func filesTold(pass int) map[int][]api.File {
	file := func(name string, size int) api.File { return api.File{Name: name, Size: size} }
	pairs := file("pairs.out", 8)
	return map[int][]api.File{
		1: {file("cells", 12)},
		2: {pairs},
		3: {pairs, file("graph.0", 17)},
		4: {pairs, file(nameTold(pass), 17)},
		5: {pairs, file(nameTold(pass), 17)},
		6: {pairs, file("graph.out", 17)},
		7: {file("pairs", 8), file("graph", 17)},
	}
}

// TestFiles: P21.2, of all stages and passes, also of those that may not be done.
func TestFiles(t *testing.T) {
	for pass := range 1001 {
		wanted := filesTold(pass)
		for stage := -2; stage <= 10; stage++ {
			if got := Files(of(stage, pass)); !slices.Equal(got, wanted[stage]) {
				t.Fatalf("P21.2: Files({%d %d}) = %v, want %v", stage, pass, got, wanted[stage])
			}
		}
	}
}

// TestFilesNone: P21.2, of other stages and passes there are none.
func TestFilesNone(t *testing.T) {
	for _, s := range steps() {
		if s.Stage >= 1 && s.Stage <= 7 && s.Pass >= 0 && s.Pass <= 1000 {
			continue
		}
		if got := Files(s); got != nil {
			t.Fatalf("P21.2: Files(%v) = %v, want none", s, got)
		}
	}
}

// TestFilesOwn: what is answered is memory of its own.
func TestFilesOwn(t *testing.T) {
	for stage, wanted := range filesTold(5) {
		one, other := Files(of(stage, 5)), Files(of(stage, 5))
		for i := range one {
			one[i] = api.File{Name: "other", Count: 1}
		}
		if again := Files(of(stage, 5)); !slices.Equal(other, wanted) || !slices.Equal(again, wanted) {
			t.Errorf("P21.2: of stage %d, files %v and %v, want %v", stage, other, again, wanted)
		}
	}
}

// TestGraph: P21.2, of all passes, and of numbers that are none.
func TestGraph(t *testing.T) {
	for pass := range 1100 {
		if got := Graph(pass); got != nameTold(pass) {
			t.Fatalf("P21.2: Graph(%d) = %q, want %q", pass, got, nameTold(pass))
		}
	}
	for _, x := range []struct {
		pass   int
		wanted string
	}{
		{0, "graph.0"}, {7, "graph.7"}, {12, "graph.12"}, {1000, "graph.1000"}, {1 << 32, "graph.4294967296"}, {math.MaxInt, "graph.9223372036854775807"},
		{-1, ""}, {-12, ""}, {math.MinInt, ""},
	} {
		if got := Graph(x.pass); got != x.wanted {
			t.Errorf("P21.2: Graph(%d) = %q, want %q", x.pass, got, x.wanted)
		}
	}
}

// made answers a manifest of a step, and of those files.
func made(s Step, files []api.File) api.Manifest {
	return api.Manifest{Stage: s.Stage, Pass: s.Pass, Files: files}
}

// fit answers a manifest of a step with the files that the document names, with counts and sums that may be.
func fit(s Step) api.Manifest {
	l := filesTold(s.Pass)[s.Stage]
	for i := range l {
		l[i].Count, l[i].Sum = 5+i, 0xfedcba98+uint32(i)
	}
	return made(s, l)
}

// TestFits: P21.2, of all kinds of steps and rounds, each with its own files.
func TestFits(t *testing.T) {
	for _, rounds := range numbers() {
		right := rightTold(rounds)
		for _, s := range steps() {
			wanted := right[s] && s != of(0, 0)
			if got := Fits(fit(s), rounds); got != wanted {
				t.Fatalf("P21.2: Fits(%v, %d) = %v, want %v", fit(s), rounds, got, wanted)
			}
		}
	}
}

// TestFitsOthers: P21.2, with the files of each step it fits just those that have them.
func TestFitsOthers(t *testing.T) {
	const rounds = 12
	all := slices.Collect(maps.Keys(rightTold(rounds)))
	for _, s := range all {
		for _, other := range all {
			files := fit(other).Files
			wanted := s != of(0, 0) && slices.Equal(files, fit(s).Files)
			if got := Fits(made(s, files), rounds); got != wanted {
				t.Errorf("P21.2: Fits of %v with the files of %v = %v, want %v", s, other, got, wanted)
			}
		}
	}
}

// changes are ways in which a list of files becomes one that doesn't fit.
func changes() map[string]func([]api.File) []api.File {
	first := func(change func(f *api.File)) func([]api.File) []api.File {
		return func(l []api.File) []api.File {
			change(&l[0])
			return l
		}
	}
	last := func(change func(f *api.File)) func([]api.File) []api.File {
		return func(l []api.File) []api.File {
			change(&l[len(l)-1])
			return l
		}
	}
	longer := func(f *api.File) { f.Name += "0" }
	shorter := func(f *api.File) { f.Name = f.Name[:len(f.Name)-1] }
	upper := func(f *api.File) { f.Name = strings.ToUpper(f.Name) }
	unlike := func(f *api.File) { f.Name = "x" + f.Name[1:] }
	bigger := func(f *api.File) { f.Size++ }
	smaller := func(f *api.File) { f.Size-- }
	below := func(f *api.File) { f.Count = -1 }
	beyond := func(f *api.File) { f.Count = 1<<62 + 1 }
	return map[string]func([]api.File) []api.File{
		"none":                  func([]api.File) []api.File { return nil },
		"the first one missing": func(l []api.File) []api.File { return l[1:] },
		"the last one missing":  func(l []api.File) []api.File { return l[:len(l)-1] },
		"one more":              func(l []api.File) []api.File { return append(l, api.File{Name: "more", Size: 17}) },
		"one more ahead":        func(l []api.File) []api.File { return append([]api.File{{Name: "more", Size: 8}}, l...) },
		"one twice":             func(l []api.File) []api.File { return append(l, l[0]) },
		"a longer first name":   first(longer),
		"a longer last name":    last(longer),
		"a shorter first name":  first(shorter),
		"a shorter last name":   last(shorter),
		"other first letters":   first(upper),
		"other last letters":    last(upper),
		"another first name":    first(unlike),
		"another last name":     last(unlike),
		"a bigger first size":   first(bigger),
		"a bigger last size":    last(bigger),
		"a smaller first size":  first(smaller),
		"a smaller last size":   last(smaller),
		"a first count below 0": first(below),
		"a last count below 0":  last(below),
		"a first count too big": first(beyond),
		"a last count too big":  last(beyond),
	}
}

// TestFitsChanged: P21.2, with other names or sizes, with more files or fewer, or where it may not be, none fits.
func TestFitsChanged(t *testing.T) {
	for s := range rightTold(64) {
		if s == of(0, 0) {
			continue
		}
		for what, change := range changes() {
			m := fit(s)
			m.Files = change(m.Files)
			if Fits(m, 64) {
				t.Errorf("P21.2: with %s, Fits(%v, 64) = true, want false", what, m)
			}
		}
	}
}

// TestFitsOrder: P21.2, the files are held against one another in order.
func TestFitsOrder(t *testing.T) {
	for s := range rightTold(64) {
		m := fit(s)
		if len(m.Files) < 2 {
			continue
		}
		slices.Reverse(m.Files)
		if Fits(m, 64) {
			t.Errorf("P21.2: in another order, Fits(%v, 64) = true, want false", m)
		}
		for i := range m.Files { // each name has the other one's size
			m.Files[i].Name, m.Files[i].Size = fit(s).Files[i].Name, fit(s).Files[1-i].Size
		}
		if Fits(m, 64) {
			t.Errorf("P21.2: with sizes in another order, Fits(%v, 64) = true, want false", m)
		}
	}
}

// TestFitsHeld: P21.2, whatever the files hold, it fits.
func TestFitsHeld(t *testing.T) {
	for s := range rightTold(64) {
		if s == of(0, 0) {
			continue
		}
		for _, count := range []int{0, 1, 1 << 32, 1 << 62} {
			for _, sum := range []uint32{0, 1, 1 << 31, math.MaxUint32} {
				m := fit(s)
				for i := range m.Files {
					m.Files[i].Count, m.Files[i].Sum = count, sum
				}
				ahead := slices.Clone(m.Files)
				if !Fits(m, 64) {
					t.Errorf("P21.2: Fits(%v, 64) = false, want true", m)
				}
				if !slices.Equal(m.Files, ahead) {
					t.Errorf("0.5: behind Fits the files are %v, want %v", m.Files, ahead)
				}
			}
		}
	}
}

// TestFitsNothing: P21.2, of nothing, whatever files there are, none fits.
func TestFitsNothing(t *testing.T) {
	for _, files := range [][]api.File{nil, {}, {{Name: "cells", Size: 12}}} {
		for _, rounds := range numbers() {
			if m := made(of(0, 0), files); Fits(m, rounds) {
				t.Errorf("P21.2: Fits(%v, %d) = true, want false", m, rounds)
			}
		}
	}
}

// TestFitsSaved: P21.2, what is told by a manifest's bytes fits, as it did ahead.
func TestFitsSaved(t *testing.T) {
	for s := range rightTold(64) {
		if s == of(0, 0) {
			continue
		}
		bytes, ok := manifest.Put(made(s, Files(s)))
		if !ok {
			t.Fatalf("P21.3: a manifest of %v may not be", s)
		}
		if m, ok := manifest.Get(bytes); !ok || !Fits(m, 64) {
			t.Errorf("P21.2: Fits of the bytes of %v = false, want true", m)
		}
	}
}

// TestToDone: P21.3, from nothing on, whatever round the job is told to stop at: at most rounds and 5 steps, each of them right, to Done.
func TestToDone(t *testing.T) {
	for rounds := 1; rounds <= 64; rounds++ {
		for told := 0; told <= rounds; told++ {
			s, n := Step{}, 0
			for ; s.Stage != api.StageDone && n <= rounds+5; n++ {
				next, ok := Next(s, rounds, s.Pass == told)
				if !ok || !Right(next, rounds) {
					t.Fatalf("P21.3: of %d rounds, behind %v, %v and %v", rounds, s, next, ok)
				}
				s = next
			}
			if wanted := min(told+1, rounds) + 5; n != wanted || s != of(api.StageDone, 0) {
				t.Errorf("P21.3: of %d rounds, told to stop behind %d, %v behind %d steps, want {7 0} behind %d", rounds, told, s, n, wanted)
			}
		}
	}
}

// TestFromAnywhere: P21.3, from whatever may be done, and whatever is told, each step is right, and Done comes.
func TestFromAnywhere(t *testing.T) {
	for rounds := 1; rounds <= 64; rounds++ {
		for s := range rightTold(rounds) {
			for bits := range 64 {
				at, ok, n := s, true, 0
				for at.Stage != api.StageDone && n <= rounds+5 {
					at, ok = Next(at, rounds, bits>>(n%6)&1 == 1)
					n++
					if !ok || !Right(at, rounds) || at == of(0, 0) {
						t.Fatalf("P21.3: of %d rounds, from %v on, %v and %v behind %d steps", rounds, s, at, ok, n)
					}
				}
				if n > rounds+5 {
					t.Fatalf("P21.3: of %d rounds, from %v on, %v behind %d steps", rounds, s, at, n)
				}
			}
		}
	}
}
