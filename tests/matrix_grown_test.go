package tests

import (
	"math/rand"
	"slices"
	"strings"
	"testing"

	"loop.example/g00135/impl"
)

// scene is what a test may do, with few mutants and much to be seen.
func (s *sketcher) scene() string {
	switch s.draw.Intn(9) {
	case 0:
		return "print(f(" + s.number() + s.one(" + ", " - ", " * ", " / ") + s.number() + "))"
	case 1:
		return "{ i := " + s.number() + "; for i < " + s.number() + " { i++ }; print(i) }"
	case 2:
		return "if f(" + s.number() + ") " + s.one("<", "==", ">=") + " " + s.number() + " { print(1) } else { panic(f(2)) }"
	case 3:
		return "{ c := " + s.made() + "; go put(c, " + s.number() + "); print(<-c) }"
	case 4:
		return "{ c := " + s.made() + "; go put(c, " + s.number() + "); go put(c, " + s.number() + "); print(<-c - <-c) }"
	case 5:
		return "{ c := " + s.made() + "; d := " + s.made() + "; go put(c, 1); go put(d, 2); select { case v := <-c: print(v) case <-d: " + s.one("", "default: ") + "print(4) } }"
	case 6:
		return "{ c := " + s.made() + "; go put(c, 1); close(c); print(<-c) }"
	case 7:
		return "defer f(" + s.number() + ")"
	}
	return "f(" + s.number() + ")"
}

// staged has few enough mutants for some tests.
func (s *sketcher) staged() string {
	text := "func put(c chan int, a int) { c <- a }\nfunc f(a int) int { " + s.one("", "", "print(a); ") + "return a " + s.one("+", "*", "/", "%") + " " + s.number() + " }\n"
	for _, name := range []string{"TestA", "TestB", "other", "TestC", "TestD"}[:s.draw.Intn(6)] {
		text += "func " + name + "() {\n"
		for range s.draw.Intn(3) {
			text += s.scene() + "\n"
		}
		text += "}\n"
	}
	return text
}

// eachStaged calls try with small programs by chance that have some tests, or none.
func eachStaged(t *testing.T, seed int64, count int, try func(n impl.Node, text string, draw *rand.Rand)) {
	t.Helper()
	draw := rand.New(rand.NewSource(seed))
	for i := range count {
		s := &sketcher{draw: draw}
		text := s.staged()
		if i%4 == 0 {
			text = s.file()
			for _, name := range []string{"TestB", "TestC"}[:draw.Intn(3)] {
				text += s.test(name)
			}
		}
		n := treeOf(t, text)
		if code, at := impl.Check(n); code != impl.OK {
			t.Fatalf("%s\nhas code %d at %d", text, code, at)
		}
		try(n, text, draw)
	}
}

// secondMatrix is a matrix by the second ways to find mutants, to explore and to judge. It is not known if its code is another one than OK.
func secondMatrix(n impl.Node, steps, runs int) (m impl.Matrix, code int) {
	for _, f := range n.Kids {
		if strings.HasPrefix(f.Name, "Test") && len(f.Kids) == 1 && f.N == impl.TyNone {
			m.Tests = append(m.Tests, f.Name)
		}
	}
	list, made := secondMutants(n)
	if len(list) > impl.MaxMutants || len(list)*len(m.Tests) > impl.MaxRows {
		return impl.Matrix{}, impl.ErrMany
	}
	m.Mutants, m.All = list, len(list)
	var bases []impl.Report
	for _, test := range m.Tests {
		base, _ := secondReport(n, test, steps, runs, false)
		bases = append(bases, base)
	}
	to := trails(n, nil)
	for number, mutant := range list {
		tree, _ := put(n, to[mutant.Node], made[number])
		killed := 0
		for place, test := range m.Tests {
			report, _ := secondReport(tree, test, steps, runs, false)
			verdict, script := secondVerdict(bases[place], report)
			m.Cells = append(m.Cells, impl.Cell{Mutant: number, Test: place, Verdict: verdict, Script: script})
			if verdict == impl.VdKilled {
				killed = 1
			}
		}
		m.Killed += killed
	}
	return m, impl.OK
}

func sameMatrix(a, b impl.Matrix) bool {
	return slices.Equal(a.Tests, b.Tests) && slices.Equal(a.Mutants, b.Mutants) && a.Killed == b.Killed && a.All == b.All && slices.EqualFunc(a.Cells, b.Cells, func(x, y impl.Cell) bool {
		return x.Mutant == y.Mutant && x.Test == y.Test && x.Verdict == y.Verdict && slices.Equal(x.Script, y.Script)
	})
}

func TestMatricesAreThoseOfTheSecondWay(t *testing.T) {
	codes, tests, verdicts, great := map[int]int{}, map[int]int{}, map[int]int{}, map[int]int{}
	look := func(n impl.Node, text string, draw *rand.Rand) {
		if draw.Intn(3) == 0 { // some mutants are too great to be right trees then
			n = padded(n, impl.MaxNodes-draw.Intn(2), blockOf())
		}
		steps, runs := []int{1 + draw.Intn(12), 60, 60}[draw.Intn(3)], 1+draw.Intn(1+draw.Intn(80))
		want, wantCode := secondMatrix(n, steps, runs)
		m, code := impl.MatrixOf(n, steps, runs)
		if code != wantCode || !sameMatrix(m, want) {
			t.Fatalf("%s\nby %d steps and %d runs has with code %d\n%v, not with code %d\n%v", text, steps, runs, code, m, wantCode, want)
		}
		if codes[code]++; code == impl.OK {
			tests[len(m.Tests)]++
		}
		for _, cell := range m.Cells {
			verdicts[cell.Verdict]++
			if made, _ := impl.Mutate(n, m.Mutants[cell.Mutant]); impl.Size(made) > impl.MaxNodes {
				great[cell.Verdict]++
			}
		}
	}
	eachStaged(t, 63, 600, look)
	eachPlay(t, 64, 60, look)
	eachTyped(t, 65, 300, func(n impl.Node, draw *rand.Rand) {
		text, _ := impl.Print(n)
		look(n, text, draw)
	})
	t.Log("programs by code:", codes, "by tests:", tests, "cells by verdict:", verdicts, "and of great mutants:", great)
	if codes[impl.OK] < 100 || codes[impl.ErrMany] < 30 || tests[0] < 20 || tests[1] < 20 || tests[2] < 20 || tests[3] < 5 {
		t.Error("programs by code:", codes, "by tests:", tests)
	}
	for _, verdict := range []int{impl.VdUnknown, impl.VdKilled, impl.VdSurvived} {
		if verdicts[verdict] < 1000 || great[verdict] < 10 {
			t.Error("cells by verdict:", verdicts, "and of great mutants:", great)
		}
	}
}

// seenIn is what a run shows.
func seenIn(r impl.Run) impl.Seen {
	return impl.Seen{Kind: r.Kind, Code: r.Code, Value: r.Value, Trace: r.Trace, Script: r.Picks}
}

func isSeen(one impl.Seen, list []impl.Seen) bool {
	return slices.ContainsFunc(list, func(other impl.Seen) bool { return impl.SameSeen(one, other) })
}

// Promise 9.
func TestWhatIsKilledIsKilledByARunThatTheProgramDoesNotHave(t *testing.T) {
	verdicts := map[int]int{}
	eachStaged(t, 66, 700, func(n impl.Node, text string, draw *rand.Rand) {
		steps, runs := 1+draw.Intn(80), 1+draw.Intn(impl.MaxRuns)
		m, code := impl.MatrixOf(n, steps, runs)
		if code != impl.OK {
			return
		}
		for _, cell := range m.Cells {
			test := m.Tests[cell.Test]
			made, _ := impl.Mutate(n, m.Mutants[cell.Mutant])
			base, _ := impl.Explore(n, test, steps, runs)
			report, _ := impl.Explore(made, test, steps, runs)
			verdicts[cell.Verdict]++
			if cell.Verdict != impl.VdUnknown && !base.Exhaustive || cell.Verdict == impl.VdSurvived && !report.Exhaustive {
				t.Fatalf("%s\nhas the cell %v by reports that are not all", text, cell)
			}
			if cell.Verdict == impl.VdKilled {
				killing, _ := impl.RunTest(made, test, cell.Script, steps)
				if !slices.Equal(killing.Picks, cell.Script) || killing.Kind == impl.OtBudget || isSeen(seenIn(killing), base.List) {
					t.Fatalf("%s\nhas the cell %v, but by its script it is %v", text, cell, killing)
				}
				for range 6 {
					if plain, _ := impl.RunTest(n, test, drawnScript(draw), steps); impl.SameSeen(seenIn(plain), seenIn(killing)) {
						t.Fatalf("%s\nhas the cell %v, but has itself the run %v", text, cell, plain)
					}
				}
			}
			for range 6 {
				run, _ := impl.RunTest(made, test, drawnScript(draw), steps)
				// A report that is not all may miss what kills.
				if isNew := base.Exhaustive && run.Kind != impl.OtBudget && !isSeen(seenIn(run), base.List); isNew && (cell.Verdict == impl.VdSurvived || report.Exhaustive && cell.Verdict != impl.VdKilled) {
					t.Fatalf("%s\nhas the cell %v, but its mutant has the run %v", text, cell, run)
				}
			}
		}
	})
	t.Log("cells by verdict:", verdicts)
	for _, verdict := range []int{impl.VdUnknown, impl.VdKilled, impl.VdSurvived} {
		if verdicts[verdict] < 1000 {
			t.Error("cells by verdict:", verdicts)
		}
	}
}

// wantReread asks that a tree is printed, parsed and checked as itself, unless it stands too deep.
func wantReread(t *testing.T, n impl.Node) impl.Node {
	t.Helper()
	text, code := impl.Print(n)
	if code != impl.OK {
		t.Fatalf("%.2000s\nis printed with code %d", show(n), code)
	}
	again, code, _ := impl.Parse(text)
	if code == impl.ErrDeep {
		return n
	}
	if code != impl.OK || !alike(again, n) {
		t.Fatalf("%s\nis parsed with code %d as another tree", text, code)
	}
	if code, at := impl.Check(again); code != impl.OK {
		t.Fatalf("%s\nhas code %d at %d", text, code, at)
	}
	return again
}

// wantTheorem asks of one program all that the theorem of the matrix says; the verdicts are counted.
func wantTheorem(t *testing.T, n impl.Node, steps, runs int, draw *rand.Rand, verdicts map[int]int) {
	t.Helper()
	n = wantReread(t, n)
	m, code := impl.MatrixOf(n, steps, runs)
	w, weaveCode := impl.Weave(n)
	if code != impl.OK || weaveCode != impl.OK {
		return
	}
	if count, _ := impl.Picks(w); count != m.All {
		t.Fatalf("%d mutants are woven as %d", m.All, count)
	}
	bases := map[string]impl.Report{}
	for selector := range m.All + 1 {
		tree, code := impl.Choose(w, selector)
		if code != impl.OK {
			t.Fatalf("chosen by %d has code %d", selector, code)
		}
		if impl.Size(tree) > impl.MaxNodes {
			continue
		}
		tree = wantReread(t, tree)
		for place, test := range m.Tests {
			report, code := impl.Explore(tree, test, steps, runs)
			if code != impl.OK {
				t.Fatalf("chosen by %d and explored has code %d", selector, code)
			}
			if selector == 0 {
				bases[test] = report
				continue
			}
			cell := m.Cells[(selector-1)*len(m.Tests)+place]
			verdict, script := impl.Judge(bases[test], report)
			if cell.Verdict != verdict || !slices.Equal(cell.Script, script) {
				t.Fatalf("%.2000s\nhas the cell %v, but is judged %d with %v", show(n), cell, verdict, script)
			}
			verdicts[verdict]++
			wantDoesWhatItDoes(t, n, w, m, cell, bases[test], report, steps, draw)
		}
	}
}

// wantDoesWhatItDoes asks that a mutant, woven, chosen and run, does what it does, and is killed by what the program never does.
func wantDoesWhatItDoes(t *testing.T, n, w impl.Node, m impl.Matrix, cell impl.Cell, base, report impl.Report, steps int, draw *rand.Rand) {
	t.Helper()
	test, selector := m.Tests[cell.Test], cell.Mutant+1
	made, _ := impl.Mutate(n, m.Mutants[cell.Mutant])
	for i, script := range [][]int{cell.Script, drawnScript(draw), drawnScript(draw)} {
		run, code := impl.RunWoven(w, selector, test, script, steps)
		if want := secondRun(made, test, script, steps); code != impl.OK || !sameRun(run, want) {
			t.Fatalf("%.2000s\nchosen by %d and run by %v is %v with code %d, not %v", show(n), selector, script, run, code, want)
		}
		isNew := base.Exhaustive && run.Kind != impl.OtBudget && !isSeen(seenIn(run), base.List)
		if i == 0 && cell.Verdict == impl.VdKilled && !isNew {
			t.Fatalf("%.2000s\nhas the cell %v, but does nothing new by its script", show(n), cell)
		}
		if isNew && (report.Exhaustive || isSeen(seenIn(run), report.List)) && cell.Verdict != impl.VdKilled {
			t.Fatalf("%.2000s\nhas the cell %v, but by %v it does what the program never does: %v", show(n), cell, script, run)
		}
	}
}

// Promise 10.
func TestTheTheoremOfTheMatrix(t *testing.T) {
	verdicts := map[int]int{}
	look := func(n impl.Node, text string, draw *rand.Rand) {
		wantTheorem(t, n, 1+draw.Intn(80), 1+draw.Intn(impl.MaxRuns), draw, verdicts)
	}
	eachStaged(t, 67, 250, look)
	eachPlay(t, 68, 80, look)
	eachTyped(t, 69, 800, func(n impl.Node, draw *rand.Rand) {
		if names, _ := impl.TestsOf(n); len(names) > 0 {
			look(n, "", draw)
		}
	})
	t.Log("cells by verdict:", verdicts)
	for _, verdict := range []int{impl.VdUnknown, impl.VdKilled, impl.VdSurvived} {
		if verdicts[verdict] < 1000 {
			t.Error("cells by verdict:", verdicts)
		}
	}
}

// Sleep sets leave out nothing, so no verdict is another one by them, if both reports are exhaustive.
func TestVerdictsBySleepSets(t *testing.T) {
	verdicts := map[int]int{}
	eachStaged(t, 70, 400, func(n impl.Node, text string, draw *rand.Rand) {
		m, code := impl.MatrixOf(n, 60, impl.MaxRuns)
		if code != impl.OK {
			return
		}
		for _, cell := range m.Cells {
			test := m.Tests[cell.Test]
			made, _ := impl.Mutate(n, m.Mutants[cell.Mutant])
			base, _ := impl.Sleep(n, test, 60, impl.MaxRuns)
			report, _ := impl.Sleep(made, test, 60, impl.MaxRuns)
			verdict, _ := impl.Judge(base, report)
			if verdicts[verdict]++; cell.Verdict != impl.VdUnknown && verdict != cell.Verdict {
				t.Fatalf("%s\nhas the cell %v, but with sleep sets the verdict %d", text, cell, verdict)
			}
		}
	})
	if verdicts[impl.VdKilled] < 1000 || verdicts[impl.VdSurvived] < 500 {
		t.Error("cells by verdict:", verdicts)
	}
}

// Programs of which some things were changed have a matrix just where they check still, and have not too many cells.
func TestAnyTreeHasAMatrixOrACode(t *testing.T) {
	codes := map[int]int{}
	eachStaged(t, 71, 1500, func(n impl.Node, _ string, draw *rand.Rand) {
		n = emptyAsNil(n)
		for range 1 + draw.Intn(2) {
			if draw.Intn(2) == 0 {
				spoil(&n, draw)
			} else {
				n = transplanted(n, draw)
			}
		}
		steps, runs := draw.Intn(20), draw.Intn(10)
		list, want := impl.Mutants(n)
		names, _ := impl.TestsOf(n)
		switch {
		case want != impl.OK:
		case len(list)*len(names) > impl.MaxRows:
			want = impl.ErrMany
		case steps < 1 || runs < 1:
			want = impl.ErrRange
		}
		if codes[want]++; want == impl.OK {
			matrixOf(t, show(n), n, steps, runs)
			return
		}
		wantMatrixCode(t, "a tree that was changed", n, steps, runs, want)
	})
	t.Log("trees by code:", codes)
	for _, code := range []int{impl.OK, impl.ErrBad, impl.ErrName, impl.ErrMany, impl.ErrRange} {
		if codes[code] < 15 {
			t.Error("trees by code:", codes)
		}
	}
}
