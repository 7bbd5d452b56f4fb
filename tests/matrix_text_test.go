package tests

import (
	"fmt"
	"math"
	"math/rand"
	"slices"
	"strings"
	"testing"

	"loop.example/g00135/impl"
)

func wantMatrixText(t *testing.T, what string, m impl.Matrix, want string) {
	t.Helper()
	if got, code := impl.MatrixText(m); code != impl.OK || got != want {
		t.Errorf("%s has the text %.500q with code %d, not %.500q", what, got, code, want)
	}
}

func wantNoMatrixText(t *testing.T, what string, m impl.Matrix) {
	t.Helper()
	if got, code := impl.MatrixText(m); code != impl.ErrBad || got != "" {
		t.Errorf("%s has the text %.500q with code %d", what, got, code)
	}
}

// oneCell is a matrix with one mutant, one test and one cell.
func oneCell(mutant impl.Mutant, test string, verdict int, script ...int) impl.Matrix {
	return impl.Matrix{Tests: []string{test}, Mutants: []impl.Mutant{mutant}, Cells: []impl.Cell{{Verdict: verdict, Script: script}}}
}

func TestWordsOfKindsAndVerdicts(t *testing.T) {
	for kind, word := range map[int]string{
		impl.MuOp: "op", impl.MuNot: "not", impl.MuInt: "int", impl.MuBool: "bool", impl.MuDrop: "drop", impl.MuSwap: "swap", impl.MuCap: "cap", impl.MuGo: "go", impl.MuCase: "case",
	} {
		for verdict, end := range map[int]string{impl.VdUnknown: "unknown", impl.VdKilled: "killed", impl.VdSurvived: "survived"} {
			wantMatrixText(t, word, oneCell(impl.Mutant{Kind: kind, Node: 7, Alt: 2}, "TestA", verdict), word+" 7 2 TestA "+end+"\nscore 0 0\n")
			// Any verdict may have a script.
			wantMatrixText(t, word, oneCell(impl.Mutant{Kind: kind}, "x", verdict, 0, 12, 3), word+" 0 0 x "+end+" 0 12 3\nscore 0 0\n")
		}
	}
}

func TestNumbersInAMatrix(t *testing.T) {
	for n, text := range map[int]string{
		0: "0", -1: "-1", 10: "10", -10: "-10", 999999999999999999: "999999999999999999", -999999999999999999: "-999999999999999999",
		1000000000000000000: "1000000000000000000", math.MaxInt: "9223372036854775807", math.MinInt: "-9223372036854775808",
	} {
		wantMatrixText(t, "Node "+text, oneCell(impl.Mutant{Kind: 1, Node: n}, "T", 1), "op "+text+" 0 T killed\nscore 0 0\n")
		wantMatrixText(t, "Alt "+text, oneCell(impl.Mutant{Kind: 1, Alt: n}, "T", 1), "op 0 "+text+" T killed\nscore 0 0\n")
		wantMatrixText(t, "Script "+text, oneCell(impl.Mutant{Kind: 1}, "T", 1, n), "op 0 0 T killed "+text+"\nscore 0 0\n")
		wantMatrixText(t, "Script "+text, oneCell(impl.Mutant{Kind: 1}, "T", 1, 4, n, 5), "op 0 0 T killed 4 "+text+" 5\nscore 0 0\n")
		m := oneCell(impl.Mutant{Kind: 1}, "T", 1)
		m.Killed = n
		wantMatrixText(t, "Killed "+text, m, "op 0 0 T killed\nscore "+text+" 0\n")
		m.Killed, m.All = 0, n
		wantMatrixText(t, "All "+text, m, "op 0 0 T killed\nscore 0 "+text+"\n")
	}
}

func TestMatricesWithoutCells(t *testing.T) {
	wantMatrixText(t, "nothing", impl.Matrix{}, "score 0 0\n")
	wantMatrixText(t, "empty lists", impl.Matrix{Tests: []string{}, Mutants: []impl.Mutant{}, Cells: []impl.Cell{}}, "score 0 0\n")
	// What no cell has is not asked for.
	wantMatrixText(t, "wrong mutants and tests", impl.Matrix{Tests: []string{"", "func", "a b"}, Mutants: []impl.Mutant{{}, {Kind: 10}, {Kind: -1}}, Killed: 3, All: -4}, "score 3 -4\n")
}

// The lists stand apart: cells may have any places in them, in any order, and more than once.
func TestCellsThatHaveAnyPlaces(t *testing.T) {
	m := impl.Matrix{
		Tests:   []string{"TestA", "no name", "b"},
		Mutants: []impl.Mutant{{Kind: impl.MuGo, Node: 4}, {Kind: 0, Node: 1}, {Kind: impl.MuCase, Node: 9, Alt: 3}},
		Cells:   []impl.Cell{{Mutant: 2, Test: 2, Verdict: impl.VdSurvived}, {Mutant: 0, Test: 2, Verdict: impl.VdKilled, Script: []int{1, 0}}, {Mutant: 2, Test: 0}, {Mutant: 2, Test: 2, Verdict: impl.VdSurvived}},
		Killed:  1, All: 3,
	}
	lines := []string{"case 9 3 b survived\n", "go 4 0 b killed 1 0\n", "case 9 3 TestA unknown\n", "case 9 3 b survived\n"}
	wantMatrixText(t, "some cells", m, strings.Join(lines, "")+"score 1 3\n")
	for at := range m.Cells {
		wrong := m
		wrong.Cells = slices.Clone(m.Cells)
		wrong.Cells[at].Mutant = 1
		wantNoMatrixText(t, "a cell of a mutant of no Kind", wrong)
		wrong.Cells[at] = m.Cells[at]
		wrong.Cells[at].Test = 1
		wantNoMatrixText(t, "a cell of a test of no name", wrong)
	}
}

func TestEachThingThatMakesAMatrixWrong(t *testing.T) {
	right := impl.Matrix{
		Tests: []string{"TestA", "TestB"}, Mutants: []impl.Mutant{{Kind: 1}, {Kind: 2}, {Kind: 9}},
		Cells: []impl.Cell{{Mutant: 0, Test: 1, Verdict: 1}, {Mutant: 1, Test: 0}, {Mutant: 2, Test: 1, Verdict: 2, Script: []int{1}}},
	}
	change := func(with func(m *impl.Matrix)) impl.Matrix {
		m := right
		m.Tests, m.Mutants, m.Cells = slices.Clone(m.Tests), slices.Clone(m.Mutants), slices.Clone(m.Cells)
		with(&m)
		return m
	}
	wantMatrixText(t, "a right one", right, "op 0 0 TestB killed\nnot 0 0 TestA unknown\ncase 0 0 TestB survived 1\nscore 0 0\n")
	for at, cell := range right.Cells {
		for _, n := range []int{math.MinInt, -2, -1, 3, 4, 1 << 32, math.MaxInt} {
			wantNoMatrixText(t, fmt.Sprint("Mutant ", n), change(func(m *impl.Matrix) { m.Cells[at].Mutant = n }))
			wantNoMatrixText(t, fmt.Sprint("Verdict ", n), change(func(m *impl.Matrix) { m.Cells[at].Verdict = n }))
		}
		for _, n := range []int{math.MinInt, -2, -1, 2, 3, 1 << 32, math.MaxInt} {
			wantNoMatrixText(t, fmt.Sprint("Test ", n), change(func(m *impl.Matrix) { m.Cells[at].Test = n }))
		}
		for _, kind := range []int{math.MinInt, -1, 0, 10, 11, 1 << 32, math.MaxInt} {
			wantNoMatrixText(t, fmt.Sprint("Kind ", kind), change(func(m *impl.Matrix) { m.Mutants[cell.Mutant].Kind = kind }))
		}
		for _, name := range []string{"", " ", "1a", "a b", "Test-A", "func", "print", "é", "a\n", "TestA ", "\xff", strings.Repeat("n", impl.MaxName+1), strings.Repeat("n", impl.MaxText+1)} {
			wantNoMatrixText(t, fmt.Sprintf("the name %.50q", name), change(func(m *impl.Matrix) { m.Tests[cell.Test] = name }))
		}
		for _, length := range []int{impl.MaxSteps + 1, impl.MaxSteps + 2, impl.MaxList + 1} {
			wantNoMatrixText(t, "a long script", change(func(m *impl.Matrix) { m.Cells[at].Script = make([]int, length) }))
		}
		wantNoMatrixText(t, "no mutants", change(func(m *impl.Matrix) { m.Mutants = nil }))
		wantNoMatrixText(t, "no tests", change(func(m *impl.Matrix) { m.Tests = nil }))
	}
}

func TestMatrixTextsAtTheirLimits(t *testing.T) {
	wantMatrixText(t, "the longest script", oneCell(impl.Mutant{Kind: 5}, "T", 1, make([]int, impl.MaxSteps)...), "drop 0 0 T killed"+strings.Repeat(" 0", impl.MaxSteps)+"\nscore 0 0\n")
	name := strings.Repeat("n", impl.MaxName)
	wantMatrixText(t, "the longest name", oneCell(impl.Mutant{Kind: 5}, name, 1), "drop 0 0 "+name+" killed\nscore 0 0\n")
	// Lists within a matrix, and its text, have no other bounds.
	for _, length := range []int{impl.MaxRows + 1, impl.MaxList, impl.MaxList + 1, 20000} {
		m := impl.Matrix{Tests: slices.Repeat([]string{"T"}, length), Mutants: slices.Repeat([]impl.Mutant{{Kind: 3}}, length), Cells: slices.Repeat([]impl.Cell{{Mutant: length - 1, Test: length - 1}}, length)}
		wantMatrixText(t, "many cells", m, strings.Repeat("int 0 0 T unknown\n", length)+"score 0 0\n")
		m.Cells[length-1].Verdict = 3
		wantNoMatrixText(t, "many cells and a wrong one", m)
	}
}

// drawnMatrix is nearly always right if wrong is 0.
func drawnMatrix(draw *rand.Rand, wrong int) impl.Matrix {
	m := impl.Matrix{Killed: draw.Intn(9) - 2, All: draw.Intn(9) - 2}
	slip := func(n int) int {
		if draw.Intn(100) < wrong {
			return n + []int{-2, -1, 1, 2}[draw.Intn(4)]*(1+draw.Intn(3))
		}
		return n
	}
	for range 1 + draw.Intn(3) {
		m.Tests = append(m.Tests, someNames[draw.Intn(len(someNames))])
		if draw.Intn(100) >= wrong {
			m.Tests[len(m.Tests)-1] = []string{"TestA", "a", "_9"}[draw.Intn(3)]
		}
	}
	for range 1 + draw.Intn(4) {
		m.Mutants = append(m.Mutants, impl.Mutant{Kind: slip(1 + draw.Intn(9)), Node: draw.Intn(2000) - 9, Alt: draw.Intn(9) - 2})
	}
	for range draw.Intn(6) {
		m.Cells = append(m.Cells, impl.Cell{Mutant: slip(draw.Intn(len(m.Mutants))), Test: slip(draw.Intn(len(m.Tests))), Verdict: slip(draw.Intn(3)), Script: drawnScript(draw)})
	}
	return m
}

// secondText is empty if the matrix is wrong.
func secondText(m impl.Matrix) (text string) {
	defer func() {
		if recover() != nil { // a place that is none
			text = ""
		}
	}()
	for _, cell := range m.Cells {
		mutant, name := m.Mutants[cell.Mutant], m.Tests[cell.Test]
		kind := strings.Fields("op not int bool drop swap cap go case")[mutant.Kind-1]
		verdict := strings.Fields("unknown killed survived")[cell.Verdict]
		if !impl.NameOK(name) {
			return ""
		}
		line := fmt.Sprintln(kind, mutant.Node, mutant.Alt, name, verdict, strings.Trim(fmt.Sprint(cell.Script), "[]"))
		text += strings.TrimRight(line, " \n") + "\n"
	}
	return text + fmt.Sprintln("score", m.Killed, m.All)
}

func TestTextsOfMatricesAreThoseOfTheSecondWay(t *testing.T) {
	draw := rand.New(rand.NewSource(62))
	found := map[bool]int{}
	for range 20000 {
		m := drawnMatrix(draw, draw.Intn(2)*8)
		want := secondText(m)
		if found[want != ""]++; want == "" {
			wantNoMatrixText(t, fmt.Sprint(m), m)
		} else {
			wantMatrixText(t, fmt.Sprint(m), m, want)
		}
	}
	if found[true] < 5000 || found[false] < 2000 {
		t.Error("matrices that are right, and wrong:", found)
	}
}
