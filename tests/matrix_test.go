package tests

import (
	"fmt"
	"math"
	"reflect"
	"runtime"
	"slices"
	"strconv"
	"strings"
	"testing"
	"time"

	"loop.example/g00135/impl"
)

func isZeroMatrix(m impl.Matrix) bool {
	return len(m.Tests) == 0 && len(m.Mutants) == 0 && len(m.Cells) == 0 && m.Killed == 0 && m.All == 0
}

func wantMatrixCode(t *testing.T, what string, n impl.Node, steps, runs, want int) {
	t.Helper()
	if m, code := impl.MatrixOf(n, steps, runs); code != want || !isZeroMatrix(m) {
		t.Errorf("%.200s by %d steps and %d runs has code %d and %.300v, not code %d", what, steps, runs, code, m, want)
	}
}

// matrixOf is that of a tree, which is asked for all that holds of each matrix.
func matrixOf(t *testing.T, what string, n impl.Node, steps, runs int) impl.Matrix {
	t.Helper()
	m, code := impl.MatrixOf(n, steps, runs)
	if code != impl.OK {
		t.Fatalf("%.2000s\nby %d steps and %d runs has code %d", what, steps, runs, code)
	}
	tests, _ := impl.TestsOf(n)
	mutants, _ := impl.Mutants(n)
	if !slices.Equal(m.Tests, tests) || !slices.Equal(m.Mutants, mutants) || m.All != len(mutants) || len(m.Cells) != len(tests)*len(mutants) {
		t.Fatalf("%.2000s\nhas %d tests, %d mutants (all: %d) and %d cells", what, len(m.Tests), len(m.Mutants), m.All, len(m.Cells))
	}
	killed := 0
	for number := range mutants {
		row := m.Cells[number*len(tests) : (number+1)*len(tests)]
		if slices.ContainsFunc(row, func(c impl.Cell) bool { return c.Verdict == impl.VdKilled }) {
			killed++
		}
		for place, cell := range row {
			if cell.Mutant != number || cell.Test != place || cell.Verdict != impl.VdKilled && len(cell.Script) > 0 {
				t.Fatalf("%.2000s\nhas the cell %v where that of mutant %d and test %d is due", what, cell, number, place)
			}
		}
	}
	if m.Killed != killed {
		t.Fatalf("%.2000s\nhas %d killed mutants, not %d", what, m.Killed, killed)
	}
	return m
}

// wantLinesOf asks for the whole text of a program's matrix, the lines of its cells and its score.
func wantLinesOf(t *testing.T, text string, steps, runs int, lines ...string) {
	t.Helper()
	m := matrixOf(t, text, treeOf(t, text), steps, runs)
	got, code := impl.MatrixText(m)
	if want := strings.Join(lines, "\n") + "\n"; code != impl.OK || got != want {
		t.Errorf("%s\nby %d steps and %d runs has with code %d the matrix\n%snot\n%s", text, steps, runs, code, got, want)
	}
}

func TestASmallMatrix(t *testing.T) {
	text := "func TestA() {\n\tprint(f(2))\n}\nfunc f(a int) int {\n\treturn a * 1\n}\nfunc TestB() {\n\tpanic(f(0))\n}"
	wantLinesOf(t, text, 20, 10,
		"drop 3 0 TestA killed 0", "drop 3 0 TestB survived",
		"int 5 0 TestA killed 0 0", "int 5 0 TestB survived",
		"int 5 1 TestA killed 0 0", "int 5 1 TestB survived",
		"op 10 0 TestA killed 0 0", "op 10 0 TestB killed 0",
		"op 10 1 TestA killed 0 0", "op 10 1 TestB killed 0",
		"op 10 3 TestA survived", "op 10 3 TestB survived",
		"op 10 4 TestA killed 0 0", "op 10 4 TestB survived",
		"int 12 0 TestA killed 0 0", "int 12 0 TestB survived",
		"int 12 1 TestA killed 0 0", "int 12 1 TestB survived",
		"int 17 0 TestA survived", "int 17 0 TestB killed 0",
		"score 9 10")
}

// What a schedule makes is seen, and the script is that of the first run that the program does not have.
func TestMutantsKilledBySchedules(t *testing.T) {
	text := "func put(c chan int, a int) { c <- a }\nfunc TestA() { c := make(chan int); go put(c, 3); go put(c, 4); print(<-c) }"
	lines := []string{
		"drop 5 0 TestA killed 0 0", // nobody sends
		"cap 11 0 TestA survived",
		"drop 12 0 TestA survived", // 4 is printed, as it may be in the program
		"go 12 0 TestA killed",     // sends to nobody at once
		"int 15 0 TestA survived",
		"int 15 1 TestA killed 0 0 0 0 0",
		"drop 16 0 TestA survived",
		"go 16 0 TestA killed 0",
		"int 19 0 TestA killed 0 0 1 0 0", // the first schedule prints what the program does
		"int 19 1 TestA killed 0 0 1 0 0",
		"drop 20 0 TestA killed 0 0 0",
		"score 7 11",
	}
	wantLinesOf(t, text, 20, 10, lines...)
	wantLinesOf(t, text, impl.MaxSteps, impl.MaxRuns, lines...)
}

// allUnknown are the lines of a program with one test, by its mutants.
func allUnknown(n impl.Node) []string {
	list, _ := impl.Mutants(n)
	m := impl.Matrix{Tests: []string{"TestA"}, Mutants: list, All: len(list)}
	for number := range list {
		m.Cells = append(m.Cells, impl.Cell{Mutant: number})
	}
	text, _ := impl.MatrixText(m)
	return strings.Split(strings.TrimSuffix(text, "\n"), "\n")
}

func TestReportsCutOffBySteps(t *testing.T) {
	text := "func TestA() { i := 0; for i < 2 { i++ }; print(i) }"
	lines := []string{
		"int 4 0 TestA survived",
		"not 5 0 TestA killed 0 0",
		"op 6 1 TestA killed 0 0", // <=
		"op 6 2 TestA killed 0 0", // >
		"op 6 3 TestA killed 0 0", // >=
		"op 6 4 TestA killed 0 0", // ==
		"op 6 5 TestA survived",   // !=
		"int 8 0 TestA killed 0 0",
		"int 8 1 TestA killed 0 0",
		"drop 10 0 TestA unknown", // goes round for ever
		"drop 11 0 TestA killed 0",
		"score 8 11",
	}
	wantLinesOf(t, text, 20, 10, lines...)
	// The program needs four steps, of its mutants some one more.
	wantLinesOf(t, text, 5, 1, lines...)
	lines[2], lines[7], lines[11] = "op 6 1 TestA unknown", "int 8 0 TestA unknown", "score 6 11"
	wantLinesOf(t, text, 4, 1, lines...)
	wantLinesOf(t, text, 3, 1, allUnknown(treeOf(t, text))...)
	wantLinesOf(t, text, 1, 300, allUnknown(treeOf(t, text))...)
	// A program that never ends has nothing to hold its mutants against, though some of them end.
	text = "func TestA() { for true { print(1) } }"
	wantLinesOf(t, text, impl.MaxSteps, impl.MaxRuns, allUnknown(treeOf(t, text))...)
}

func TestReportsCutOffByRuns(t *testing.T) {
	// The program has two runs, the mutant with room three, without the second send one.
	text := "func put(c chan int) { c <- 1 }\nfunc TestA() { c := make(chan int); go put(c); go put(c); <-c }"
	lines := []string{
		"drop 4 0 TestA killed 0 0",
		"int 6 0 TestA survived",
		"int 6 1 TestA survived",
		"cap 10 0 TestA survived",
		"drop 11 0 TestA survived",
		"go 11 0 TestA killed",
		"drop 14 0 TestA survived",
		"go 14 0 TestA killed 0",
		"drop 17 0 TestA survived",
		"score 3 9",
	}
	n := treeOf(t, text)
	base, _ := impl.Explore(n, "TestA", 100, impl.MaxRuns)
	made, _ := impl.Mutate(n, impl.Mutant{Kind: impl.MuCap, Node: 10})
	wide, _ := impl.Explore(made, "TestA", 100, impl.MaxRuns)
	if base.Runs != 2 || wide.Runs <= 2 || !base.Exhaustive || !wide.Exhaustive {
		t.Fatalf("the program has %d runs, the mutant %d", base.Runs, wide.Runs)
	}
	wantLinesOf(t, text, 100, wide.Runs, lines...)
	lines[3] = "cap 10 0 TestA unknown"
	wantLinesOf(t, text, 100, wide.Runs-1, lines...)
	wantLinesOf(t, text, 100, 2, lines...)
	wantLinesOf(t, text, 100, 1, allUnknown(n)...)
}

// wantCell asks for the verdict on the mutant of a program's TestA in which false is true.
func wantCell(t *testing.T, text string, steps, runs, verdict int, script ...int) {
	t.Helper()
	n := treeOf(t, text)
	m := matrixOf(t, text, n, steps, runs)
	number := slices.Index(m.Mutants, impl.Mutant{Kind: impl.MuBool, Node: placeOf(t, n, impl.NdBool, 1)})
	if cell := m.Cells[number]; cell.Verdict != verdict || !slices.Equal(cell.Script, script) {
		t.Errorf("%s\nby %d steps and %d runs has the cell %v, not verdict %d with %v", text, steps, runs, cell, verdict, script)
	}
}

// A mutant is killed by what was seen, though that was not all; where nothing else was seen it is unknown.
func TestMutantsKilledByReportsThatAreNotAll(t *testing.T) {
	put := "func put(c chan int, a int) { c <- a }\n"
	first := put + "func TestA() { c := make(chan int); if false { go put(c, 3) }; go put(c, 1); go put(c, 2); print(<-c) }"
	last := put + "func TestA() { c := make(chan int); go put(c, 1); go put(c, 2); if false { go put(c, 3) }; print(<-c) }"
	for _, text := range []string{first, last} {
		wantCell(t, text, 50, 1, impl.VdUnknown)
	}
	for runs := 2; runs < 5; runs++ {
		wantCell(t, first, 50, runs, impl.VdKilled, 0, 0, 0, 0, 0, 0)
	}
	wantCell(t, last, 50, 2, impl.VdUnknown)
	wantCell(t, last, 50, 3, impl.VdKilled, 0, 0, 0, 2, 0, 0)
	wantCell(t, strings.Replace(last, "3", "2", 1), 50, 2, impl.VdUnknown)
	wantCell(t, strings.Replace(last, "3", "2", 1), 50, 3, impl.VdSurvived)
	// One run of the mutant goes on for ever, the other one does what the program never does, or what it does.
	endless := "func TestA() { c := make(chan int); close(c); v := 1; if false { v = 2 }; select { case <-c: if v == 2 { for {} } case <-c: print(v) } }"
	turned := "func TestA() { c := make(chan int); close(c); v := 1; if false { v = 2 }; select { case <-c: print(v) case <-c: if v == 2 { for {} } } }"
	for _, runs := range []int{2, 3, impl.MaxRuns} {
		wantCell(t, endless, 50, runs, impl.VdKilled, 0, 1, 0, 0)
		wantCell(t, turned, 50, runs, impl.VdKilled, 0, 0, 0, 0)
		wantCell(t, strings.Replace(endless, "print(v)", "print(1)", 1), 50, runs, impl.VdUnknown)
		wantCell(t, strings.Replace(turned, "print(v)", "print(1)", 1), 50, runs, impl.VdUnknown)
		wantCell(t, strings.Replace(endless, "for {}", "", 1), 50, runs, impl.VdKilled, 0, 1, 0, 0)
	}
}

func TestCodesOfAMatrixInTheirOrder(t *testing.T) {
	bounds := []struct{ steps, runs int }{{10, 10}, {0, 10}, {10, 0}, {math.MinInt, math.MaxInt}, {impl.MaxSteps + 1, impl.MaxRuns + 1}}
	codes := map[int]int{}
	for _, n := range callTrees() {
		_, want := impl.Mutants(n)
		if codes[want]++; want == impl.OK {
			continue
		}
		for _, b := range bounds {
			wantMatrixCode(t, "a tree without mutants", n, b.steps, b.runs, want)
		}
	}
	for _, code := range []int{impl.ErrBad, impl.ErrTwice, impl.ErrName, impl.ErrType, impl.ErrCount, impl.ErrResult, impl.ErrPlace} {
		if codes[code] == 0 {
			t.Errorf("no tree has code %d", code)
		}
	}
	tests := "\nfunc TestA() {}\nfunc TestB() {}"
	for _, b := range bounds {
		wantMatrixCode(t, "a tree without end", endlessTree(), b.steps, b.runs, impl.ErrBad)
		wantMatrixCode(t, "a woven tree", woven(t, treeOf(t, "func TestA() { print(1) }")), b.steps, b.runs, impl.ErrBad)
		wantMatrixCode(t, "a fault, and too many mutants", treeOf(t, panics(impl.MaxMutants+1, "break")+tests), b.steps, b.runs, impl.ErrPlace)
		wantMatrixCode(t, "a fault, and too many cells", treeOf(t, panics(61, "break")+tests), b.steps, b.runs, impl.ErrPlace)
		wantMatrixCode(t, "too many mutants without a test", treeOf(t, panics(impl.MaxMutants+1, "")), b.steps, b.runs, impl.ErrMany)
		wantMatrixCode(t, "too many cells", treeOf(t, panics(61, "")+tests), b.steps, b.runs, impl.ErrMany)
		if b.steps != 10 || b.runs != 10 {
			wantMatrixCode(t, "as many cells as can be", treeOf(t, panics(60, "")+tests), b.steps, b.runs, impl.ErrRange)
		}
	}
}

// emptyTests are so many tests that do nothing.
func emptyTests(count int) string {
	var text strings.Builder
	for i := range count {
		text.WriteString("func Test" + strconv.Itoa(i) + "() {}\n")
	}
	return text.String()
}

func TestMaxRows(t *testing.T) {
	for _, sides := range [][2]int{{0, 0}, {1, 0}, {0, 1}, {1, 1}, {1, 119}, {1, 120}, {1, 121}, {2, 59}, {2, 60}, {2, 61}, {3, 40}, {3, 41}, {7, 17}, {8, 15}, {11, 10}, {11, 11}, {10, 12}, {12, 10}, {40, 3}, {60, 2}, {61, 2}, {119, 1}, {120, 1}, {121, 1}, {130, 0}, {200, 0}, {0, 121}, {0, impl.MaxMutants}, {1, impl.MaxMutants}, {50, 300}} {
		tests, mutants := sides[0], sides[1]
		n := treeOf(t, emptyTests(tests)+panics(mutants, ""))
		what := fmt.Sprint(tests, " tests and ", mutants, " mutants")
		if tests*mutants > impl.MaxRows {
			wantMatrixCode(t, what, n, 10, 10, impl.ErrMany)
			wantMatrixCode(t, what, n, 0, 0, impl.ErrMany)
			continue
		}
		wantMatrixCode(t, what, n, 0, 10, impl.ErrRange)
		wantMatrixCode(t, what, n, 10, 0, impl.ErrRange)
		m := matrixOf(t, what, n, 10, 10)
		if len(m.Tests) != tests || len(m.Mutants) != mutants || m.Killed != 0 {
			t.Errorf("%s are %d and %d, of which %d are killed", what, len(m.Tests), len(m.Mutants), m.Killed)
		}
		for _, cell := range m.Cells {
			if cell.Verdict != impl.VdSurvived {
				t.Fatalf("%s: the cell %v", what, cell)
			}
		}
	}
}

func TestStepsAndRunsOfAMatrix(t *testing.T) {
	// With cells, without a test, without a mutant, without both, without anything.
	for _, text := range []string{"func TestA() { print(1) }", "func f() { print(1) }", "func TestA() {}", "func f() {}", ""} {
		n := treeOf(t, text)
		for _, steps := range []int{math.MinInt, -1, 0, 1, 2, impl.MaxSteps, impl.MaxSteps + 1, math.MaxInt} {
			for _, runs := range []int{math.MinInt, -1, 0, 1, 2, impl.MaxRuns, impl.MaxRuns + 1, math.MaxInt} {
				if steps < 1 || steps > impl.MaxSteps || runs < 1 || runs > impl.MaxRuns {
					wantMatrixCode(t, text, n, steps, runs, impl.ErrRange)
					continue
				}
				m := matrixOf(t, text, n, steps, runs)
				if want := map[bool]int{true: 3}[len(m.Cells) > 0 && steps > 1]; m.Killed != want {
					t.Errorf("%q by %d steps and %d runs has %d killed mutants", text, steps, runs, m.Killed)
				}
			}
		}
	}
	wantLinesOf(t, "func f() { print(1) }", 1, 1, "score 0 3")
	wantLinesOf(t, "func TestA() {}\nfunc TestB() { for {} }", 1, 1, "score 0 0")
	wantLinesOf(t, "", 1, 1, "score 0 0")
	// These are no tests: a parameter, a result, another name.
	wantLinesOf(t, "func TestA(a int) { print(a) }\nfunc TestB() int { return 0 }\nfunc testC() {}", 1, 1, "score 0 2")
}

func TestAMutantCountsOnceHoweverManyTestsKillIt(t *testing.T) {
	text := "func f() int { return 4 }\nfunc TestNone() { f() }\nfunc TestA() { panic(f()) }\nfunc TestB() { print(f()) }\nfunc TestC() { if f() == 0 { panic(0) } }"
	m := matrixOf(t, text, treeOf(t, text), 20, 5)
	got, _ := impl.MatrixText(m)
	if !strings.HasPrefix(got, "int 4 0 TestNone survived\nint 4 0 TestA killed 0\nint 4 0 TestB killed 0 0\nint 4 0 TestC survived\nint 4 1 TestNone survived\nint 4 1 TestA killed 0\nint 4 1 TestB killed 0 0\nint 4 1 TestC killed 0\n") {
		t.Errorf("%s\nhas the matrix\n%s", text, got)
	}
	for _, cell := range m.Cells {
		if cell.Test == 0 && cell.Verdict != impl.VdSurvived {
			t.Errorf("a test that shows nothing has the cell %v", cell)
		}
	}
}

// A mutant that is too great to be a right tree is judged like any other.
func TestCellsOfMutantsWithTooManyNodes(t *testing.T) {
	for _, text := range []string{
		"func TestA() { b := true; if b { print(b) }; for b { print(2); b = false } }\nfunc TestB() { TestA(); TestA() }",
		"func TestA() { c := make(chan int); c <- 1; print(<-c) }\nfunc TestB() { c := make(chan int, 1); c <- 1; print(<-c) }",
	} {
		plain := matrixOf(t, text, treeOf(t, text), 100, 50)
		for size := impl.MaxNodes - 1; size <= impl.MaxNodes; size++ {
			n := padded(treeOf(t, text), size, blockOf())
			m := matrixOf(t, text, n, 100, 50)
			great := 0
			for number, mutant := range m.Mutants {
				if made, _ := impl.Mutate(n, mutant); impl.Size(made) > impl.MaxNodes {
					great++
					if m.Cells[number*len(m.Tests)].Verdict != impl.VdKilled {
						t.Errorf("%s\nhas a great mutant %v with the cell %v", text, mutant, m.Cells[number*len(m.Tests)])
					}
				}
			}
			if !reflect.DeepEqual(m.Cells, plain.Cells) || m.Killed != plain.Killed || (great > 0) != (size == impl.MaxNodes) {
				t.Errorf("%s\nhas other cells with %d nodes, or %d great mutants", text, size, great)
			}
		}
	}
}

// Whatever the goroutines do, and however many may go on at a time.
func TestAMatrixIsAlwaysTheSame(t *testing.T) {
	text := tools + "func TestA() { c := make(chan int); go put(c, 1); get(c) }\nfunc TestB() { c := make(chan int, 2); go put(c, 3); show(<-c) }\nfunc TestC() { show(sum(1, say(2))) }"
	var few string
	for _, used := range []string{"put", "get", "show", "say", "sum"} {
		start := strings.Index(text, "func "+used+"(")
		few += text[start:start+strings.Index(text[start:], "\n")] + "\n"
	}
	text = few + text[strings.Index(text, "func TestA"):]
	n := treeOf(t, text)
	want := matrixOf(t, text, n, 100, 100)
	if len(want.Cells) < 60 || want.Killed < 10 {
		t.Fatalf("only %d cells, and %d killed mutants", len(want.Cells), want.Killed)
	}
	defer runtime.GOMAXPROCS(runtime.GOMAXPROCS(0))
	for _, most := range []int{1, 2, 3, 8, 64} {
		runtime.GOMAXPROCS(most)
		for range 60 {
			if m, code := impl.MatrixOf(n, 100, 100); code != impl.OK || !reflect.DeepEqual(m, want) {
				t.Fatalf("%s\nhas with code %d another matrix: %v, not %v", text, code, m, want)
			}
		}
	}
	many := treeOf(t, emptyTests(40)+"func f() { panic(3) }\nfunc Test() { f() }")
	wantMatrixCode(t, "too many", many, 10, 10, impl.ErrMany)
	many = treeOf(t, emptyTests(39)+"func f() { panic(3) }\nfunc Test() { f() }")
	for range 50 {
		m := matrixOf(t, "many tests", many, 10, 10)
		if m.Killed != 3 || m.Cells[39].Verdict+m.Cells[79].Verdict+m.Cells[119].Verdict != 3*impl.VdKilled {
			t.Fatalf("the matrix of many tests is %v", m)
		}
	}
}

// Nothing of a matrix goes on when it is answered.
func TestNoGoroutineIsLeft(t *testing.T) {
	before := runtime.NumGoroutine()
	n := treeOf(t, emptyTests(100)+"func f() { panic(0) }")
	for range 100 {
		matrixOf(t, "many tests", n, 10, 10)
	}
	for range 5000 { // one that has done its last thing may be counted a little longer
		if runtime.NumGoroutine() <= before {
			return
		}
		time.Sleep(time.Millisecond)
	}
	t.Errorf("%d goroutines have become %d", before, runtime.NumGoroutine())
}

// Many long runs of deep calls, of each of many mutants.
func TestMatricesOfLongRuns(t *testing.T) {
	text := crossed(10, 20)
	text = strings.Replace(text, "}\nselect {}\n}", "}\nsink(50)\n}\nfunc sink(n int) { if n > 0 { sink(n - 1) } else { for n < 300 { print(n); n++ } } }", 1)
	text = strings.ReplaceAll(text, "v := ", "")
	for i := range 20 {
		text = strings.Replace(text, "print(v + "+strconv.Itoa(i)+")", "", 1)
	}
	m := matrixOf(t, text, treeOf(t, text), impl.MaxSteps, impl.MaxRuns)
	if len(m.Cells) < 60 || m.Killed < 10 || m.Killed == m.All {
		t.Errorf("%s\nhas %d killed mutants of %d", text, m.Killed, m.All)
	}
}
