package tests

import (
	"fmt"
	"math"
	"math/rand"
	"reflect"
	"slices"
	"strings"
	"sync"
	"testing"
	"unsafe"

	"loop.example/g00135/impl"
)

// callTexts are texts right and wrong, at the edges of all that bounds them.
var callTexts = []string{
	"", "a", "if", "ok", "deep", "x := <-c // wait\n\nreturn }", "a & b", "007", "1a", "\x00", "\xff\xfe", "é", "a\n\n\nb", "//", ";;;", "<--",
	strings.Repeat("n", impl.MaxName), strings.Repeat("n", impl.MaxName+1), strings.Repeat("9", 18), strings.Repeat("9", 19),
	strings.Repeat("(", impl.MaxTokens), strings.Repeat("(", impl.MaxTokens+1), strings.Repeat("(", impl.MaxTokens-1) + "x",
	strings.Repeat(" ", impl.MaxText), strings.Repeat(" ", impl.MaxText+1), strings.Repeat("x\n", impl.MaxText),
	wholeText, "func f() {", "func f() { x }", "func f() { select { case a := b: } }", "func f() " + strings.Repeat("{", 61), "func f() {" + strings.Repeat("break;", 600) + "}",
	"func f() { a := 1; a := 2 }", "func f() { print(x) }", "func f() { print(1 + true) }", "func f() { f(1) }", "func f() int {}", "func f() { break }", "func TestA() {}\nfunc TestB() { TestA() }",
	runText, "func TestA() { for { print(1) } }", "func TestA() { defer TestA(); TestA() }", "func TestA() { select {} }", "func TestA() { x := 1 / 0; print(x) }",
	strings.Repeat("func f() {}\n", 299), strings.Repeat("func f() {}\n", 300), "func f() { a := " + strings.Repeat("1+", 1900) + "1 }", "func f() {" + strings.Repeat("if a {} else ", 58) + "{}}",
}

// wholeText has all that a tree may have.
const wholeText = `func g(a int, b bool, c chan int) int {
	x := make(chan int, 2); y := make(chan int)
	y = x
	a++; a--
	for a < 3 && !b { x <- -a*2; break }
	for { continue }
	if b { <-c } else if a == 1 { close(c) } else { panic(a % 2) }
	select {
	case v := <-x: print(v)
	case <-y: { return g(a, true, c) }
	case c <- 7:
	default: go g(1, false, c); defer g((2), b || b, y)
	}
	return 999999999999999999
}
func h() { return }
`

// runText has a test with some goroutines.
const runText = `func shut(c chan int) { close(c) }
func give(c chan int, n int) { defer shut(c); for n > 0 { c <- n; n-- } }
func TestA() {
	c := make(chan int); d := make(chan int, 2)
	go give(c, 2); go give(d, 3)
	i := 0
	for i < 6 {
		select {
		case v := <-c: print(v)
		case v := <-d: print(v * 10)
		}
		i++
	}
	panic(i)
}
`

// callTrees are trees right and wrong.
func callTrees() []impl.Node {
	list := []impl.Node{{}, {Kind: -5, N: -1, Name: "\xff"}, node(impl.NdFile), plainOf(impl.NdPick), wideTree(597), wideTree(598), deepTree(595), deepTree(5000), leftTree(5000), fileOf(node(impl.NdPrint), node(impl.NdPrint, numbered(impl.NdInt, -1)))}
	for kind := range len(kidLetters) {
		list = append(list, around(plainOf(kind)), plainOf(kind))
	}
	for _, text := range callTexts {
		n, _, _ := impl.Parse(text)
		w, _ := impl.Weave(n)
		list = append(list, n, w)
	}
	for _, other := range anyNodes() {
		list = append(list, printing(pickOf(1, whole(1), other)), pickOf(1, printing(pickOf(2, whole(1), whole(2), other)), other), pickOf(2, printing(), other))
	}
	return list
}

type answers struct {
	name      bool
	codeOf    int
	word      string
	list      []impl.Token
	code, at  int
	wordAfter string
	tree      impl.Node
	treeCode  int
	treeAt    int
	right     bool
	size      int
	text      string
	textCode  int
	check     [2]int
	types     []int
	typesEnd  [2]int
	tests     []string
	testsCode int
	runs      [3]impl.Run
	runCodes  [3]int
	reports   [6]impl.Report
	codes     [6]int
	same      bool
	within    [2]int
	mutants   []impl.Mutant
	made      []impl.Node
	madeCodes []int
	differ    [][2]int
	nodes     []impl.Node
	trees     []impl.Node
	wovenRuns []impl.Run
	weaving   []int
	verdicts  []impl.Cell
	matrices  []impl.Matrix
	matrixEnd []int
	tables    []string
}

func callAll(text string, code int) answers {
	a := answers{name: impl.NameOK(text), codeOf: impl.CodeOf(text), word: impl.CodeWord(code)}
	a.list, a.code, a.at = impl.Tokens(text)
	a.wordAfter = impl.CodeWord(a.codeOf)
	a.tree, a.treeCode, a.treeAt = impl.Parse(text)
	a.right, a.size = impl.TreeOK(a.tree), impl.Size(a.tree)
	a.text, a.textCode = impl.Print(a.tree)
	a.check[0], a.check[1] = impl.Check(a.tree)
	a.types, a.typesEnd[0], a.typesEnd[1] = impl.TypesOf(a.tree)
	a.tests, a.testsCode = impl.TestsOf(a.tree)
	for i, script := range [][]int{nil, {1, 2, 3, 4, 5, 6, 7, 8, 9}, {code}} {
		a.runs[i], a.runCodes[i] = impl.RunTest(a.tree, "TestA", script, 1+50*i)
		a.reports[i], a.codes[i] = impl.Explore(a.tree, "TestA", 1+50*i, 20*i)
		a.reports[3+i], a.codes[3+i] = impl.Sleep(a.tree, "TestA", 1+50*i, 20*i)
	}
	first := impl.Seen{Kind: code, Trace: a.types}
	for _, seen := range a.reports[1].List {
		first = seen
	}
	a.same = impl.SameSeen(first, impl.Seen{Kind: code, Trace: a.types})
	a.within[0], a.within[1] = impl.Within(a.reports[2].List, []impl.Seen{first})
	a.mutate(code)
	a.weave(code)
	a.judge(code)
	return a
}

// mutate asks for some mutants of the tree, and for what is none, and for nodes by number.
func (a *answers) mutate(code int) {
	list, listCode := impl.Mutants(a.tree)
	a.mutants, a.madeCodes = list, []int{listCode}
	for i, m := range append(slices.Clone(list), impl.Mutant{}, impl.Mutant{Kind: code, Node: code, Alt: code}) {
		if i%10 > 0 && i < len(list) {
			continue
		}
		made, madeCode := impl.Mutate(a.tree, m)
		at, differCode := impl.Differ(a.tree, made)
		node, nodeCode := impl.NodeAt(made, at+code)
		a.made, a.nodes = append(a.made, made), append(a.nodes, node)
		a.madeCodes, a.differ = append(a.madeCodes, madeCode, nodeCode), append(a.differ, [2]int{at, differCode})
	}
}

// weave asks for the woven tree, and for what is chosen of it, and of the tree itself.
func (a *answers) weave(code int) {
	w, wovenCode := impl.Weave(a.tree)
	a.trees, a.weaving = []impl.Node{w}, []int{wovenCode}
	for _, tree := range []impl.Node{w, a.tree} {
		count, picksCode := impl.Picks(tree)
		a.weaving = append(a.weaving, count, picksCode)
		if impl.WovenOK(tree) {
			a.weaving = append(a.weaving, -1)
		}
		for _, selector := range []int{0, code, count, count + 1} {
			chosen, chosenCode := impl.Choose(tree, selector)
			run, runCode := impl.RunWoven(tree, selector, "TestA", []int{code, 1, 2, 3}, 60)
			a.trees, a.wovenRuns = append(a.trees, chosen), append(a.wovenRuns, run)
			a.weaving = append(a.weaving, chosenCode, runCode)
		}
	}
}

// judge asks for verdicts, for the matrix of the tree, and for texts of matrices, also of such as are wrong.
func (a *answers) judge(code int) {
	for i, base := range a.reports {
		verdict, script := impl.Judge(base, a.reports[(i+1)%len(a.reports)])
		a.verdicts = append(a.verdicts, impl.Cell{Verdict: verdict, Script: script})
	}
	for _, runs := range []int{20, code} {
		m, matrixCode := impl.MatrixOf(a.tree, 60, runs)
		wrong := m
		wrong.Mutants = m.Mutants[:len(m.Mutants)/2]
		for _, each := range []impl.Matrix{m, wrong, {Cells: m.Cells}, {Killed: code, All: runs}} {
			text, textCode := impl.MatrixText(each)
			a.tables, a.matrixEnd = append(a.tables, text), append(a.matrixEnd, textCode)
		}
		a.matrices, a.matrixEnd = append(a.matrices, m), append(a.matrixEnd, matrixCode)
	}
}

func TestAlikeArgumentsHaveAlikeAnswers(t *testing.T) {
	var first []answers
	for i, text := range callTexts {
		first = append(first, callAll(text, i-5))
	}
	for i, text := range slices.Backward(callTexts) {
		again := callAll(strings.Clone(text), i-5)
		if !reflect.DeepEqual(again, first[i]) {
			t.Errorf("%.30q has other answers when asked again", text)
		}
	}
}

func TestCallsAtOneTimeHaveTheSameAnswers(t *testing.T) {
	want := make([]answers, len(callTexts))
	for i, text := range callTexts {
		want[i] = callAll(text, i)
	}
	var group sync.WaitGroup
	for range 8 {
		group.Go(func() {
			for i, text := range callTexts {
				if !reflect.DeepEqual(callAll(text, i), want[i]) {
					t.Errorf("%.30q has other answers beside other calls", text)
				}
			}
		})
	}
	group.Wait()
}

func TestAnswersAreNewMemory(t *testing.T) {
	text := "x := <-c // wait\n\nreturn }"
	first, _, _ := impl.Tokens(text)
	kept := slices.Clone(first)
	whole := first[:cap(first)]
	for i := range whole {
		whole[i] = impl.Token{Kind: -1, Text: "spoilt", At: -1}
	}
	second, code, at := impl.Tokens(text)
	if code != impl.OK || at != 0 || !slices.Equal(second, kept) {
		t.Error("what was written into an answer is seen in the next one:", second)
	}
	third, _, _ := impl.Tokens(text)
	second = append(second, impl.Token{Kind: -1})
	second[0].At = -1
	if !slices.Equal(third, kept) {
		t.Error("two answers share memory:", third)
	}
}

func TestAllElseIsZeroBesideACode(t *testing.T) {
	codes := map[int]int{}
	for _, text := range callTexts {
		list, code, at := impl.Tokens(text)
		codes[code]++
		if code != impl.OK && len(list) != 0 {
			t.Errorf("Tokens(%.30q) has %d tokens beside code %d", text, len(list), code)
		}
		if (code == impl.OK || code == impl.ErrLong) && at != 0 {
			t.Errorf("Tokens(%.30q) has place %d beside code %d", text, at, code)
		}
		if at < 0 || at > len(text) {
			t.Errorf("Tokens(%.30q) has place %d", text, at)
		}
	}
	for _, code := range []int{impl.OK, impl.ErrSyntax, impl.ErrMany, impl.ErrLong} {
		if codes[code] == 0 {
			t.Errorf("no text has code %d", code)
		}
	}
}

func TestAllElseIsZeroBesideACodeOfParse(t *testing.T) {
	codes := map[int]int{}
	for _, text := range callTexts {
		n, code, at := impl.Parse(text)
		codes[code]++
		if code != impl.OK && (n.Kind != 0 || n.N != 0 || n.Name != "" || len(n.Kids) != 0) {
			t.Errorf("Parse(%.30q) has a tree beside code %d", text, code)
		}
		if code == impl.OK && (at != 0 || !impl.TreeOK(n)) {
			t.Errorf("Parse(%.30q) has place %d, or a tree that is not right", text, at)
		}
	}
	for _, code := range []int{impl.OK, impl.ErrSyntax, impl.ErrMany, impl.ErrLong, impl.ErrForm, impl.ErrDeep} {
		if codes[code] == 0 {
			t.Errorf("no text has code %d", code)
		}
	}
}

func TestAllElseIsZeroBesideACodeOfPrint(t *testing.T) {
	codes := map[int]int{}
	for _, tree := range callTrees() {
		text, code := impl.Print(tree)
		codes[code]++
		if right := impl.TreeOK(tree); right != (code == impl.OK) || !right && (code != impl.ErrBad || text != "") {
			t.Errorf("Print has code %d and %.30q where right is %v", code, text, right)
		}
	}
	if codes[impl.OK] == 0 || codes[impl.ErrBad] == 0 || len(codes) != 2 {
		t.Error("trees by code:", codes)
	}
}

func TestAllElseIsZeroBesideACodeOfCheck(t *testing.T) {
	codes := map[int]int{}
	for _, tree := range callTrees() {
		code, at := impl.Check(tree)
		codes[code]++
		wantCheck(t, tree, code, at)
		if right := impl.TreeOK(tree); right == (code == impl.ErrBad) || (code == impl.OK || code == impl.ErrBad) && at != 0 || right && at >= impl.Size(tree) {
			t.Errorf("Check has code %d at %d where right is %v", code, at, right)
		}
	}
	for _, code := range []int{impl.OK, impl.ErrBad, impl.ErrName, impl.ErrTwice, impl.ErrType, impl.ErrCount, impl.ErrResult, impl.ErrPlace} {
		if codes[code] == 0 {
			t.Errorf("no tree has code %d", code)
		}
	}
}

func TestTypesAndTestsAreNewMemory(t *testing.T) {
	tree := treeOf(t, "func TestA() { x := 1 + 2; print(x) }\nfunc TestB() { TestA() }\nfunc TestC() {}")
	types, _, _ := impl.TypesOf(tree)
	names, _ := impl.TestsOf(tree)
	keptTypes, keptNames := slices.Clone(types), slices.Clone(names)
	secondTypes, _, _ := impl.TypesOf(tree)
	secondNames, _ := impl.TestsOf(tree)
	for i := range types[:cap(types)] {
		types[:cap(types)][i] = -7
	}
	for i := range names[:cap(names)] {
		names[:cap(names)][i] = "spoilt"
	}
	thirdTypes, _, _ := impl.TypesOf(tree)
	thirdNames, _ := impl.TestsOf(tree)
	if !slices.Equal(secondTypes, keptTypes) || !slices.Equal(thirdTypes, keptTypes) {
		t.Error("what was written into types is seen in other ones:", secondTypes, thirdTypes)
	}
	if !slices.Equal(secondNames, keptNames) || !slices.Equal(thirdNames, keptNames) {
		t.Error("what was written into names of tests is seen in other ones:", secondNames, thirdNames)
	}
	for i, function := range tree.Kids {
		if within(secondNames[i], function.Name) || within(secondNames[i], thirdNames[i]) {
			t.Errorf("the name %s lies in other memory", function.Name)
		}
	}
}

// Trees by chance, of which up to two things were changed, have a text just where they are right.
func TestAnyTreeHasATextOrNone(t *testing.T) {
	draw := rand.New(rand.NewSource(13))
	codes := map[int]int{}
	for range 20000 {
		g := &grower{draw: draw, left: 5 + draw.Intn(40)}
		n := g.file(2 + draw.Intn(4))
		for range draw.Intn(3) {
			spoil(&n, draw)
		}
		text, code := impl.Print(n)
		codes[code]++
		if right := impl.TreeOK(n); right != (code == impl.OK) || !right && (code != impl.ErrBad || text != "") {
			t.Fatalf("Print has code %d and %.300q where right is %v", code, text, right)
		}
		if code == impl.OK {
			wantAgain(t, n, text)
		}
	}
	if codes[impl.OK] < 1000 || codes[impl.ErrBad] < 1000 {
		t.Error("trees by code:", codes)
	}
}

// spoil changes one thing of one node of a tree.
func spoil(n *impl.Node, draw *rand.Rand) {
	for len(n.Kids) > 0 && draw.Intn(4) > 0 {
		n = &n.Kids[draw.Intn(len(n.Kids))]
	}
	switch draw.Intn(5) {
	case 0:
		n.Kind = draw.Intn(40) - 4
	case 1:
		n.N = []int{math.MinInt, -1, 0, 1, 2, 3, 4, math.MaxInt}[draw.Intn(8)]
	case 2:
		n.Name = someNames[draw.Intn(len(someNames))]
	case 3:
		n.Kids = append(n.Kids, plainOf(draw.Intn(len(kidLetters))))
	default:
		n.Kids = n.Kids[:draw.Intn(len(n.Kids)+1)]
	}
}

func TestAnyTextHasATreeOrAFault(t *testing.T) {
	pieces := slices.Concat(allSigns, takenWords, []string{";", "\n", "x", "f", "1", " ", "func f() {", "}\n", "(", ")", "&", "007", "print(1)", "a := ", "if a {", "select { case "})
	draw := rand.New(rand.NewSource(10))
	for range 30000 {
		var text strings.Builder
		if draw.Intn(2) == 0 {
			text.WriteString("func f() {")
		}
		for range draw.Intn(16) {
			text.WriteString(pieces[draw.Intn(len(pieces))] + " "[:draw.Intn(2)])
		}
		n, code, at := impl.Parse(text.String())
		switch code {
		case impl.OK:
			if !impl.TreeOK(n) || at != 0 {
				t.Fatalf("Parse(%q) = %s at %d", text.String(), show(n), at)
			}
			printed, _ := impl.Print(n)
			wantAgain(t, n, printed)
		case impl.ErrSyntax, impl.ErrForm:
			if at < 0 || at > text.Len() || n.Kind != 0 {
				t.Fatalf("Parse(%q) has code %d at %d", text.String(), code, at)
			}
		default:
			t.Fatalf("Parse(%q) has code %d", text.String(), code)
		}
	}
}

// wholeLists calls look with each list of kids in a tree, and with what is behind its end.
func wholeLists(n impl.Node, look func([]impl.Node)) {
	for _, kid := range n.Kids {
		wholeLists(kid, look)
	}
	look(n.Kids[:cap(n.Kids)])
}

func TestTreesAreNewMemory(t *testing.T) {
	first, _, _ := impl.Parse(wholeText)
	kept := show(first)
	second, _, _ := impl.Parse(wholeText)
	seen := map[*impl.Node]bool{}
	for _, n := range []impl.Node{first, second} {
		wholeLists(n, func(list []impl.Node) {
			for i := range list {
				if seen[&list[i]] {
					t.Error("two lists share memory")
				}
				seen[&list[i]] = true
			}
		})
	}
	wholeLists(first, func(list []impl.Node) {
		for i := range list {
			list[i] = impl.Node{Kind: 1, N: 7, Name: "spoilt"}
		}
	})
	third, code, at := impl.Parse(wholeText)
	if code != impl.OK || at != 0 || show(second) != kept || show(third) != kept {
		t.Error("what was written into an answer is seen in another one")
	}
}

// wantApart asks that no list of some trees shares memory with another one, behind its end neither.
func wantApart(t *testing.T, trees ...impl.Node) {
	t.Helper()
	seen := map[*impl.Node]bool{}
	for _, n := range trees {
		wholeLists(n, func(list []impl.Node) {
			for i := range list {
				if seen[&list[i]] {
					t.Fatal("two lists share memory")
				}
				seen[&list[i]] = true
			}
		})
	}
}

// namesIn lists the names of a tree's nodes, but for those that are empty.
func namesIn(n impl.Node, list []string) []string {
	if n.Name != "" {
		list = append(list, n.Name)
	}
	for _, kid := range n.Kids {
		list = namesIn(kid, list)
	}
	return list
}

// wantNamesApart asks that no name of a tree lies in the memory of another one's names.
func wantNamesApart(t *testing.T, a, b impl.Node) {
	t.Helper()
	others := namesIn(b, nil)
	for _, one := range namesIn(a, nil) {
		for _, other := range others {
			if within(one, other) {
				t.Fatalf("the name %s lies in other memory", one)
			}
		}
	}
}

// wantNewTrees asks that a tree which a call answers is new memory, whatever is written into it.
func wantNewTrees(t *testing.T, what string, given impl.Node, call func(impl.Node) (impl.Node, int)) {
	t.Helper()
	kept := emptyAsNil(given)
	first, code := call(given)
	again, _ := call(given)
	if code != impl.OK {
		t.Fatalf("%s has code %d", what, code)
	}
	wantApart(t, given, first, again)
	wantNamesApart(t, given, first)
	want := emptyAsNil(again)
	wholeLists(first, func(list []impl.Node) {
		for i := range list {
			list[i] = impl.Node{Kind: 1, N: 7, Name: "spoilt"}
		}
	})
	if third, _ := call(given); !alike(again, want) || !alike(third, want) || !alike(given, kept) {
		t.Fatalf("what was written into %s is seen elsewhere", what)
	}
}

func TestMutantsAreNewMemory(t *testing.T) {
	for _, text := range []string{wholeText, runText} {
		n := treeOf(t, text)
		list, _ := impl.Mutants(n)
		second, _ := impl.Mutants(n)
		for _, m := range slices.Clone(list) {
			wantNewTrees(t, "a mutant", n, func(n impl.Node) (impl.Node, int) { return impl.Mutate(n, m) })
		}
		for i := range list[:cap(list)] {
			list[:cap(list)][i] = impl.Mutant{Kind: -9}
		}
		if third, _ := impl.Mutants(n); len(third) == 0 || !slices.Equal(second, third) {
			t.Error("what was written into a list of mutants is seen in another one")
		}
	}
}

func TestNodesAreNewMemory(t *testing.T) {
	n := treeOf(t, wholeText)
	for at := range impl.Size(n) {
		wantNewTrees(t, "a node", n, func(n impl.Node) (impl.Node, int) { return impl.NodeAt(n, at) })
	}
}

func TestWovenTreesAreNewMemory(t *testing.T) {
	for _, text := range []string{wholeText, runText, "", "func f() int { return f() }"} {
		n := treeOf(t, text)
		wantNewTrees(t, "a woven tree", n, impl.Weave)
		for _, w := range []impl.Node{n, woven(t, n)} {
			count, _ := impl.Picks(w)
			for selector := 0; selector <= count; selector += 1 + count/40 {
				wantNewTrees(t, "a chosen tree", w, func(w impl.Node) (impl.Node, int) { return impl.Choose(w, selector) })
			}
		}
	}
	// What is picked as a whole is new memory, too, whatever it is.
	for _, other := range anyNodes() {
		wantNewTrees(t, "a picked file", pickOf(1, printing(), other), func(w impl.Node) (impl.Node, int) { return impl.Choose(w, 1) })
	}
}

func TestWovenRunsAreNewMemory(t *testing.T) {
	w := woven(t, treeOf(t, runText))
	script := []int{1, 2, 3, 1, 2, 3, -4, -5}[:6]
	for _, selector := range []int{0, 5, 11} {
		first, code := impl.RunWoven(w, selector, "TestA", script, 300)
		second, _ := impl.RunWoven(w, selector, "TestA", script, 300)
		kept := fmt.Sprint(first)
		seenAt := map[*int]bool{}
		for _, list := range [][]int{script, first.Trace, first.Picks, first.Widths, second.Trace, second.Picks, second.Widths} {
			list = list[:cap(list)]
			for i := range list {
				if seenAt[&list[i]] {
					t.Fatal("two lists of a run share memory")
				}
				seenAt[&list[i]] = true
			}
		}
		if code != impl.OK || len(first.Picks) < 3 {
			t.Fatalf("the run is %v with code %d", first, code)
		}
		for _, list := range [][]int{first.Trace, first.Picks, first.Widths} {
			for i := range list[:cap(list)] {
				list[:cap(list)][i] = -9
			}
		}
		third, _ := impl.RunWoven(w, selector, "TestA", script, 300)
		if fmt.Sprint(second) != kept || fmt.Sprint(third) != kept || !slices.Equal(script[:8], []int{1, 2, 3, 1, 2, 3, -4, -5}) {
			t.Error("what was written into a run is seen elsewhere")
		}
	}
}

// Lists that stand twice in what is handed in are two in what is handed back.
func TestListsThatStandTwiceBecomeTwo(t *testing.T) {
	sum := twoSides("+", whole(1), whole(2))
	block := blockOf(node(impl.NdPrint, sum), node(impl.NdPrint, sum))
	n := fileOf(node(impl.NdIf, twoSides("<", sum, sum), block, blockOf(block)), block, node(impl.NdFor, block))
	list, code := impl.Mutants(n)
	if code != impl.OK || len(list) < 50 {
		t.Fatalf("%d mutants with code %d", len(list), code)
	}
	for _, m := range list {
		made, _ := impl.Mutate(n, m)
		wantApart(t, made)
	}
	for at := range impl.Size(n) {
		got, _ := impl.NodeAt(n, at)
		wantApart(t, got)
	}
	wantApart(t, woven(t, n))
	number := pickOf(1, sum, sum, sum)
	for selector := range 3 {
		got, code := impl.Choose(fileOf(node(impl.NdIf, number, block, blockOf(block)), block), selector)
		if code != impl.OK {
			t.Errorf("chosen by %d has code %d", selector, code)
		}
		wantApart(t, got)
	}
}

// within says that a text lies in the memory of another one.
func within(part, whole string) bool {
	p, w := uintptr(unsafe.Pointer(unsafe.StringData(part))), uintptr(unsafe.Pointer(unsafe.StringData(whole)))
	return part != "" && w <= p && p < w+uintptr(len(whole))
}

func TestTextsOfAnswersAreNewMemory(t *testing.T) {
	text := strings.Clone(wholeText)
	list, _, _ := impl.Tokens(text)
	for _, token := range list {
		if within(token.Text, text) {
			t.Errorf("the token %v lies in the text that was handed in", token)
		}
	}
	n, _, _ := impl.Parse(text)
	wholeLists(n, func(list []impl.Node) {
		for _, kid := range list {
			if within(kid.Name, text) {
				t.Errorf("the name %s lies in the text that was handed in", kid.Name)
			}
		}
	})
	printed, _ := impl.Print(n)
	again, _ := impl.Print(n)
	if within(printed, again) || within(again, printed) {
		t.Error("two answers of Print share memory")
	}
	wholeLists(n, func(list []impl.Node) {
		for _, kid := range list {
			if within(kid.Name, printed) || within(printed, kid.Name) {
				t.Errorf("the name %s lies in the text that is answered", kid.Name)
			}
		}
	})
}

// withRoom copies a tree; behind the end of each list of kids there is one more node.
func withRoom(n impl.Node) impl.Node {
	kids := make([]impl.Node, 0, len(n.Kids)+1)
	for _, kid := range n.Kids {
		kids = append(kids, withRoom(kid))
	}
	n.Kids = append(kids, impl.Node{Kind: -9, Name: "behind"})[:len(kids)]
	return n
}

func wantRunsOfAlikeTrees(t *testing.T, trees ...impl.Node) {
	t.Helper()
	script := []int{1, 1, 2, 1, 3, -5, -6}[:5]
	first, code := impl.RunTest(trees[0], "TestA", script, 60)
	for _, n := range trees[1:] {
		if again, other := impl.RunTest(n, "TestA", script, 60); other != code || !reflect.DeepEqual(again, first) {
			t.Errorf("alike trees have other runs: %v with code %d and %v with code %d", first, code, again, other)
		}
	}
	if !slices.Equal(script[:cap(script)], []int{1, 1, 2, 1, 3, -5, -6}) {
		t.Errorf("a script was changed: %v", script[:cap(script)])
	}
	for _, way := range bothWays {
		first, code := way.call(trees[0], "TestA", 60, 15)
		for _, n := range trees[1:] {
			if again, other := way.call(n, "TestA", 60, 15); other != code || !reflect.DeepEqual(again, first) {
				t.Errorf("alike trees have other reports: %v with code %d and %v with code %d", first, code, again, other)
			}
		}
	}
}

func wantMutantsOfAlikeTrees(t *testing.T, trees ...impl.Node) {
	t.Helper()
	first, code := impl.Mutants(trees[0])
	asked := append(slices.Clone(first), impl.Mutant{Kind: 1, Node: 4}, impl.Mutant{Kind: 9, Node: -1})
	for _, n := range trees[1:] {
		if again, other := impl.Mutants(n); other != code || !slices.Equal(again, first) {
			t.Errorf("alike trees have other mutants: %v with code %d and %v with code %d", first, code, again, other)
		}
		at, differs := impl.Differ(trees[0], n)
		if right := impl.TreeOK(n); at != 0 || right != (differs == impl.ErrNone) || !right && differs != impl.ErrBad {
			t.Errorf("alike trees differ at %d with code %d", at, differs)
		}
		for i, m := range asked {
			if i%7 > 0 && i < len(first) {
				continue
			}
			one, code := impl.Mutate(trees[0], m)
			two, other := impl.Mutate(n, m)
			if !reflect.DeepEqual(one, two) || code != other {
				t.Errorf("alike trees have other mutants by %v: codes %d and %d", m, code, other)
			}
			one, code = impl.NodeAt(trees[0], m.Node)
			two, other = impl.NodeAt(n, m.Node)
			if !reflect.DeepEqual(one, two) || code != other {
				t.Errorf("alike trees have other nodes at %d: codes %d and %d", m.Node, code, other)
			}
		}
	}
}

func wantWovenOfAlikeTrees(t *testing.T, trees ...impl.Node) {
	t.Helper()
	var all []answers
	for _, n := range trees {
		a := answers{tree: n}
		a.weave(2)
		a.tree = impl.Node{}
		all = append(all, a)
	}
	for _, a := range all[1:] {
		if !reflect.DeepEqual(a, all[0]) {
			t.Error("alike trees are woven, chosen or run as others")
		}
	}
}

func wantMatrixOfAlikeTrees(t *testing.T, trees ...impl.Node) {
	t.Helper()
	first, code := impl.MatrixOf(trees[0], 40, 10)
	for _, n := range trees[1:] {
		if again, other := impl.MatrixOf(n, 40, 10); other != code || !reflect.DeepEqual(again, first) {
			t.Errorf("alike trees have other matrices: %v with code %d and %v with code %d", first, code, again, other)
		}
	}
}

// reportLists are all lists of numbers of a report, with what is behind their ends.
func reportLists(r impl.Report) [][]int {
	var lists [][]int
	for _, seen := range r.List[:cap(r.List)] {
		lists = append(lists, seen.Trace[:cap(seen.Trace)], seen.Script[:cap(seen.Script)])
	}
	return lists
}

func TestReportsAreNewMemory(t *testing.T) {
	tree := treeOf(t, runText)
	for _, way := range bothWays {
		first, _ := way.call(tree, "TestA", 300, 100)
		kept := fmt.Sprint(first)
		second, _ := way.call(tree, "TestA", 300, 100)
		if len(first.List) < 4 {
			t.Errorf("%s has too little: %v", way.name, first)
		}
		seenAt := map[*int]bool{}
		for _, r := range []impl.Report{first, second} {
			for _, list := range reportLists(r) {
				for i := range list {
					if seenAt[&list[i]] {
						t.Fatalf("%s: two lists share memory", way.name)
					}
					seenAt[&list[i]] = true
				}
			}
		}
		for _, list := range reportLists(first) {
			for i := range list {
				list[i] = -9
			}
		}
		for i := range first.List[:cap(first.List)] {
			first.List[:cap(first.List)][i] = impl.Seen{Kind: -9}
		}
		third, _ := way.call(tree, "TestA", 300, 100)
		if fmt.Sprint(second) != kept || fmt.Sprint(third) != kept {
			t.Errorf("%s: what was written into a report is seen in another one", way.name)
		}
	}
}

func TestSeensHandedInAreNotChanged(t *testing.T) {
	made := func() []impl.Seen {
		list := []impl.Seen{{Kind: 1, Trace: []int{1, 2, 3}, Script: []int{4, 5}}, {Kind: 2, Code: 3, Value: 4}, {Kind: -9, Trace: []int{9}}}
		list[0].Trace, list[0].Script = list[0].Trace[:2], list[0].Script[:1]
		return list[:2]
	}
	a, b := made(), made()
	impl.Within(a, b)
	impl.Within(b[:1], a[1:])
	impl.SameSeen(a[0], b[0])
	impl.SameSeen(a[0], b[1])
	for _, list := range [][]impl.Seen{a, b} {
		whole, want := list[:3], made()[:3]
		if !reflect.DeepEqual(whole, want) || whole[0].Trace[:3][2] != 3 || whole[0].Script[:2][1] != 5 {
			t.Errorf("lists of what was seen were changed: %v", whole)
		}
	}
	// What is behind the end of a trace has no part in it.
	if !impl.SameSeen(a[0], impl.Seen{Kind: 1, Trace: []int{1, 2}}) {
		t.Error("what is behind the end of a list has a part in the answer")
	}
}

// wantNumbersApart asks that no list of numbers shares memory with another one, behind its end neither.
func wantNumbersApart(t *testing.T, lists ...[]int) {
	t.Helper()
	seenAt := map[*int]bool{}
	for _, list := range lists {
		list = list[:cap(list)]
		for i := range list {
			if seenAt[&list[i]] {
				t.Fatal("two lists of numbers share memory")
			}
			seenAt[&list[i]] = true
		}
	}
}

func TestMatricesAreNewMemory(t *testing.T) {
	n := treeOf(t, "func put(c chan int, a int) { c <- a }\nfunc TestA() { c := make(chan int); go put(c, 3); print(<-c) }\nfunc TestB() { c := make(chan int, 2); put(c, 4); print(<-c) }\nfunc TestC() {}")
	kept := emptyAsNil(n)
	first, code := impl.MatrixOf(n, 50, 20)
	second, _ := impl.MatrixOf(n, 50, 20)
	want := fmt.Sprint(first)
	if code != impl.OK || first.Killed < 5 || len(first.Tests) != 3 {
		t.Fatalf("the matrix is %v with code %d", first, code)
	}
	var scripts [][]int
	for _, m := range []impl.Matrix{first, second} {
		for _, cell := range m.Cells {
			scripts = append(scripts, cell.Script)
		}
		for i, test := range m.Tests {
			if within(test, n.Kids[i+1].Name) {
				t.Errorf("the name %s lies in other memory", test)
			}
		}
	}
	wantNumbersApart(t, scripts...)
	for _, script := range scripts[:len(first.Cells)] {
		for i := range script[:cap(script)] {
			script[:cap(script)][i] = -9
		}
	}
	for i := range first.Cells[:cap(first.Cells)] {
		first.Cells[:cap(first.Cells)][i] = impl.Cell{Mutant: -9}
	}
	for i := range first.Mutants[:cap(first.Mutants)] {
		first.Mutants[:cap(first.Mutants)][i] = impl.Mutant{Kind: -9}
	}
	for i := range first.Tests[:cap(first.Tests)] {
		first.Tests[:cap(first.Tests)][i] = "spoilt"
	}
	third, _ := impl.MatrixOf(n, 50, 20)
	if fmt.Sprint(second) != want || fmt.Sprint(third) != want || !alike(n, kept) {
		t.Error("what was written into a matrix is seen elsewhere")
	}
}

func TestVerdictsAreNewMemory(t *testing.T) {
	made := func() (base, mutant impl.Report) {
		list := []impl.Seen{{Kind: 1, Trace: []int{1, 2, 3}[:2], Script: []int{4, 5}[:1]}, {Kind: 2, Trace: []int{6, 7}[:1], Script: []int{0, 1, 2, -9}[:3]}, {Kind: 3, Script: []int{8}}}
		return impl.Report{List: list[:1:2], Exhaustive: true, Runs: 1}, impl.Report{List: list[:2], Exhaustive: true, Runs: 2}
	}
	base, mutant := made()
	verdict, script := impl.Judge(base, mutant)
	_, again := impl.Judge(base, mutant)
	if verdict != impl.VdKilled || !slices.Equal(script, []int{0, 1, 2}) {
		t.Fatalf("the verdict is %d with %v", verdict, script)
	}
	wantNumbersApart(t, script, again, mutant.List[1].Script, mutant.List[0].Script)
	for i := range script[:cap(script)] {
		script[:cap(script)][i] = -7
	}
	wantBase, wantMutant := made()
	same := reflect.DeepEqual(base, wantBase) && reflect.DeepEqual(mutant, wantMutant) && reflect.DeepEqual(mutant.List[:3], wantMutant.List[:3])
	if !same || !slices.Equal(mutant.List[1].Script[:4], []int{0, 1, 2, -9}) || !slices.Equal(mutant.List[0].Trace[:3], []int{1, 2, 3}) || !slices.Equal(again, []int{0, 1, 2}) {
		t.Error("what was written into a verdict's script is seen elsewhere, or a report was changed")
	}
	// What is behind the end of a list has no part in it.
	if verdict, _ := impl.Judge(base, impl.Report{List: mutant.List[:1], Exhaustive: true}); verdict != impl.VdSurvived {
		t.Error("what is behind the end of a list has a part in the verdict", verdict)
	}
}

func TestMatricesHandedInAreNotChanged(t *testing.T) {
	made := func() impl.Matrix {
		return impl.Matrix{
			Tests: []string{"TestA", "TestB"}[:1], Mutants: []impl.Mutant{{Kind: 1}, {Kind: 2}}[:1],
			Cells: []impl.Cell{{Verdict: 1, Script: []int{1, 2, 3}[:2]}, {Verdict: 7}}[:1],
		}
	}
	m := made()
	text, code := impl.MatrixText(m)
	if code != impl.OK || text != "op 0 0 TestA killed 1 2\nscore 0 0\n" {
		t.Errorf("the text is %q with code %d", text, code)
	}
	want := made()
	if !reflect.DeepEqual(m, want) || !reflect.DeepEqual(m.Cells[:2], want.Cells[:2]) || !reflect.DeepEqual(m.Mutants[:2], want.Mutants[:2]) || !reflect.DeepEqual(m.Tests[:2], want.Tests[:2]) || m.Cells[0].Script[:3][2] != 3 {
		t.Error("a matrix was changed")
	}
	if again, _ := impl.MatrixText(m); again != text || within(text, again) || within(text, m.Tests[0]) {
		t.Error("two texts share memory")
	}
	// What is behind the end of a list is none.
	for _, cell := range []impl.Cell{{Mutant: 1}, {Test: 1}} {
		m.Cells[0] = cell
		wantNoMatrixText(t, "a place behind the end of a list", m)
	}
}

func TestTreesHandedInAreNotChanged(t *testing.T) {
	for _, tree := range callTrees() {
		given, same := withRoom(tree), withRoom(tree)
		right, size := impl.TreeOK(given), impl.Size(given)
		text, code := impl.Print(given)
		if again, other := impl.TreeOK(same), impl.Size(same); again != right || other != size {
			t.Error("alike trees have other answers")
		}
		if again, other := impl.Print(same); again != text || other != code {
			t.Error("alike trees have other texts")
		}
		if right != impl.TreeOK(tree) || size != impl.Size(tree) {
			t.Error("what is behind the end of a list has a part in the answer")
		}
		checkCode, at := impl.Check(given)
		wantCheck(t, given, checkCode, at)
		wantCheck(t, same, checkCode, at)
		wantCheck(t, tree, checkCode, at)
		if plain, other := impl.Print(tree); plain != text || other != code {
			t.Error("what is behind the end of a list has a part in the text")
		}
		wantRunsOfAlikeTrees(t, given, same, tree)
		wantMutantsOfAlikeTrees(t, given, same, tree)
		wantWovenOfAlikeTrees(t, given, same, tree)
		wantMatrixOfAlikeTrees(t, given, same, tree)
		if !reflect.DeepEqual(given, withRoom(tree)) {
			t.Error("a tree was changed")
		}
		wholeLists(given, func(list []impl.Node) {
			if last := list[len(list)-1]; last.Kind != -9 || last.N != 0 || last.Name != "behind" || last.Kids != nil {
				t.Error("something was written behind the end of a list")
			}
		})
	}
}
