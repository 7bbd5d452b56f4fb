package tests

import (
	"slices"
	"strconv"
	"strings"
	"testing"

	"loop.example/g00135/impl"
)

// helpers are functions that the bodies of tests may call; they stand behind what is tested, so that its places are its own.
const helpers = `
func none() {}
func one() int { return 1 }
func yes() bool { return true }
func pipe() chan int { return make(chan int) }
func take(a int, b bool, c chan int) {}
func give(a int, b bool, c chan int) int { return a }
`

// inFunction is the text of a function with a variable of each type, and of the helpers.
func inFunction(body string) string {
	return "func f(i int, b bool, c chan int) {\n" + body + "\n}\n" + helpers
}

func treeOf(t *testing.T, text string) impl.Node {
	t.Helper()
	n, code, at := impl.Parse(text)
	if code != impl.OK {
		t.Fatalf("Parse(%q) has code %d at %d", text, code, at)
	}
	return n
}

// inOrder lists the nodes of a tree by their numbers.
func inOrder(n impl.Node) []impl.Node {
	list := []impl.Node{n}
	for _, kid := range n.Kids {
		list = append(list, inOrder(kid)...)
	}
	return list
}

// placeOf is the number of the nth node of a Kind, from 1 on.
func placeOf(t *testing.T, n impl.Node, kind, nth int) int {
	t.Helper()
	for at, node := range inOrder(n) {
		if node.Kind == kind {
			nth--
		}
		if nth == 0 {
			return at
		}
	}
	t.Fatalf("there are not so many nodes of Kind %d in %s", kind, show(n))
	return 0
}

// wantCheck asks all three calls for a code and a place, and that nothing else is beside a code.
func wantCheck(t *testing.T, n impl.Node, code, at int) {
	t.Helper()
	if c, p := impl.Check(n); c != code || p != at {
		t.Errorf("Check(%.500s) has code %d at %d, not %d at %d", show(n), c, p, code, at)
	}
	types, c, p := impl.TypesOf(n)
	if c != code || p != at {
		t.Errorf("TypesOf(%.500s) has code %d at %d, not %d at %d", show(n), c, p, code, at)
	}
	names, c := impl.TestsOf(n)
	if c != code {
		t.Errorf("TestsOf(%.500s) has code %d, not %d", show(n), c, code)
	}
	if code != impl.OK && len(types)+len(names) > 0 {
		t.Errorf("beside code %d %.500s has the types %v and the tests %q", code, show(n), types, names)
	}
	if code == impl.OK && len(types) != impl.Size(n) {
		t.Errorf("%.500s has %d nodes and %d types", show(n), impl.Size(n), len(types))
	}
}

// wantFaultAt asks for a code at the nth node of a Kind in a text.
func wantFaultAt(t *testing.T, text string, code, kind, nth int) {
	t.Helper()
	n := treeOf(t, text)
	wantCheck(t, n, code, placeOf(t, n, kind, nth))
}

func wantFine(t *testing.T, texts ...string) {
	t.Helper()
	for _, text := range texts {
		wantCheck(t, treeOf(t, text), impl.OK, 0)
	}
}

func wantFineBody(t *testing.T, bodies ...string) {
	t.Helper()
	for _, body := range bodies {
		wantFine(t, inFunction(body))
	}
}

// A fault of a body, at the nth node of a Kind.
type bodyFault struct {
	body            string
	code, kind, nth int
}

func wantBodyFaults(t *testing.T, list []bodyFault) {
	t.Helper()
	for _, c := range list {
		wantFaultAt(t, inFunction(c.body), c.code, c.kind, c.nth)
	}
}

// expressionsOf has expressions of each type, of all Kinds that can have it.
var expressionsOf = [][]string{
	impl.TyNone: {"none()", "take(1, true, c)"},
	impl.TyInt:  {"1", "0", "i", "one()", "give(1, b, c)", "-i", "i + 1", "i - 1", "i * 2", "7 / i", "i % 2", "<-c"},
	impl.TyBool: {"true", "false", "b", "yes()", "!b", "b && b", "b || b", "i == 1", "b != b", "c == c", "i < 1", "i <= 1", "i > 1", "i >= 1"},
	impl.TyChan: {"c", "pipe()", "make(chan int)", "make(chan int, i)"},
}

// expressionOf is the tree of an expression's text.
func expressionOf(t *testing.T, text string) impl.Node {
	t.Helper()
	return treeOf(t, "func f() { x := "+text+" }").Kids[0].Kids[0].Kids[0].Kids[0]
}

// filled puts an expression where the variable hole stands, and tells its number.
func filled(n impl.Node, expression impl.Node) (impl.Node, int) {
	at := slices.IndexFunc(inOrder(n), func(n impl.Node) bool { return n.Name == "hole" })
	var fill func(n impl.Node) impl.Node
	fill = func(n impl.Node) impl.Node {
		if n.Name == "hole" {
			return expression
		}
		kids := slices.Clone(n.Kids)
		for i := range kids {
			kids[i] = fill(kids[i])
		}
		n.Kids = kids
		return n
	}
	return fill(n), at
}

// wantTypes asks for a value of certain types where the variable hole stands in a text.
func wantTypes(t *testing.T, text string, allowed ...int) {
	t.Helper()
	around := treeOf(t, text)
	for of, list := range expressionsOf {
		for _, expression := range list {
			n, at := filled(around, expressionOf(t, expression))
			switch {
			case slices.Contains(allowed, of):
				wantCheck(t, n, impl.OK, 0)
			case of == impl.TyNone:
				wantCheck(t, n, impl.ErrResult, at)
			default:
				wantCheck(t, n, impl.ErrType, at)
			}
		}
	}
}

func TestTypesThatAreDue(t *testing.T) {
	for _, c := range []struct {
		body    string
		allowed []int
	}{
		{"x := hole", []int{impl.TyInt, impl.TyBool, impl.TyChan}},
		{"print(hole)", []int{impl.TyInt, impl.TyBool}},
		{"i = hole", []int{impl.TyInt}},
		{"b = hole", []int{impl.TyBool}},
		{"c = hole", []int{impl.TyChan}},
		{"hole <- 1", []int{impl.TyChan}},
		{"c <- hole", []int{impl.TyInt}},
		{"<-hole", []int{impl.TyChan}},
		{"if hole {}", []int{impl.TyBool}},
		{"if b {} else if hole {} else {}", []int{impl.TyBool}},
		{"for hole {}", []int{impl.TyBool}},
		{"close(hole)", []int{impl.TyChan}},
		{"panic(hole)", []int{impl.TyInt}},
		{"select { case <-hole: }", []int{impl.TyChan}},
		{"select { case v := <-hole: }", []int{impl.TyChan}},
		{"select { case hole <- 1: }", []int{impl.TyChan}},
		{"select { case c <- hole: }", []int{impl.TyInt}},
		{"take(hole, b, c)", []int{impl.TyInt}},
		{"take(i, hole, c)", []int{impl.TyBool}},
		{"take(i, b, hole)", []int{impl.TyChan}},
		{"go take(hole, b, c)", []int{impl.TyInt}},
		{"go give(i, hole, c)", []int{impl.TyBool}},
		{"defer take(i, hole, c)", []int{impl.TyBool}},
		{"defer give(i, b, hole)", []int{impl.TyChan}},
		{"print(give(hole, b, c))", []int{impl.TyInt}},
		{"print(give(i, hole, c))", []int{impl.TyBool}},
		{"print(give(i, b, hole))", []int{impl.TyChan}},
		{"x := make(chan int, hole)", []int{impl.TyInt}},
		{"x := -hole", []int{impl.TyInt}},
		{"x := !hole", []int{impl.TyBool}},
		{"x := <-hole", []int{impl.TyChan}},
		{"{ { if b { for { select { default: print(1 + hole) } } } } }", []int{impl.TyInt}},
	} {
		wantTypes(t, inFunction(c.body), c.allowed...)
	}
}

func TestTypesOfResults(t *testing.T) {
	for of, word := range map[int]string{impl.TyInt: "int", impl.TyBool: "bool", impl.TyChan: "chan int"} {
		wantTypes(t, "func f(i int, b bool, c chan int) "+word+" { return hole }"+helpers, of)
		wantTypes(t, "func f(i int, b bool, c chan int) "+word+" { for { if b { return hole } } }"+helpers, of)
	}
}

func TestCallsWithoutAResultWhereNoneIsDue(t *testing.T) {
	wantFineBody(t, "none()", "go none()", "defer none()", "take(1, true, c)", "one(); go one(); defer one()", "pipe()", "yes()", "<-c", "<-pipe()", "f(i, b, c)")
}

// Signs of two sides with each pair of types: the type of both, or the side at fault.
func TestSidesOfEachTypes(t *testing.T) {
	sides := []string{impl.TyNone: "none()", impl.TyInt: "i", impl.TyBool: "b", impl.TyChan: "c"}
	for _, sign := range signsOfTwo {
		for left, leftText := range sides {
			for right, rightText := range sides {
				n := treeOf(t, inFunction("x := "+leftText+" "+sign+" "+rightText))
				at := placeOf(t, n, impl.NdBinary, 1)
				due, of := impl.TyInt, impl.TyBool
				switch sign {
				case "+", "-", "*", "/", "%":
					of = impl.TyInt
				case "&&", "||":
					due = impl.TyBool
				case "==", "!=":
					due = left
				}
				switch {
				case left == impl.TyNone:
					wantCheck(t, n, impl.ErrResult, at+1)
				case left != due:
					wantCheck(t, n, impl.ErrType, at+1)
				case right == impl.TyNone:
					wantCheck(t, n, impl.ErrResult, at+2)
				case right != due:
					wantCheck(t, n, impl.ErrType, at+2)
				default:
					wantCheck(t, n, impl.OK, 0)
					if types, _, _ := impl.TypesOf(n); types[at] != of || types[at+1] != left || types[at+2] != right {
						t.Errorf("%s %s %s has the types %v", leftText, sign, rightText, types[at:at+3])
					}
				}
			}
		}
	}
}

func TestNamesThatThereAreNot(t *testing.T) {
	wantBodyFaults(t, []bodyFault{
		{"print(x)", impl.ErrName, impl.NdVar, 1},
		{"x = 1", impl.ErrName, impl.NdAssign, 1},
		{"x++", impl.ErrName, impl.NdStep, 1},
		{"x--", impl.ErrName, impl.NdStep, 1},
		{"x()", impl.ErrName, impl.NdCall, 1},
		{"go x()", impl.ErrName, impl.NdCall, 1},
		{"defer x()", impl.ErrName, impl.NdCall, 1},
		{"print(x())", impl.ErrName, impl.NdCall, 1},
		{"print(give(one(), x(), c))", impl.ErrName, impl.NdCall, 3},
		{"x <- 1", impl.ErrName, impl.NdVar, 1},
		{"c <- x", impl.ErrName, impl.NdVar, 2},
		{"close(x)", impl.ErrName, impl.NdVar, 1},
		{"if x {}", impl.ErrName, impl.NdVar, 1},
		{"for x {}", impl.ErrName, impl.NdVar, 1},
		{"return x", impl.ErrResult, impl.NdReturn, 1},
		{"select { case <-x: }", impl.ErrName, impl.NdVar, 1},
		{"select { case x <- 1: }", impl.ErrName, impl.NdVar, 1},
		{"select { case c <- x: }", impl.ErrName, impl.NdVar, 2},
		{"x := make(chan int, y)", impl.ErrName, impl.NdVar, 1},
		{"print(I)", impl.ErrName, impl.NdVar, 1},
		{"print(ii)", impl.ErrName, impl.NdVar, 1},
		{"None()", impl.ErrName, impl.NdCall, 1},
	})
}

func TestCountsOfArguments(t *testing.T) {
	for _, c := range []struct {
		name string
		due  int
	}{{"none", 0}, {"one", 0}, {"take", 3}, {"give", 3}, {"f", 3}} {
		for count := range 6 {
			arguments := append([]string{"i", "b", "c"}[:min(count, 3)], slices.Repeat([]string{"i"}, max(0, count-3))...)
			call := c.name + "(" + strings.Join(arguments, ", ") + ")"
			for _, body := range []string{call, "go " + call, "defer " + call} {
				if count == c.due {
					wantFineBody(t, body)
				} else {
					wantFaultAt(t, inFunction(body), impl.ErrCount, impl.NdCall, 1)
				}
			}
		}
	}
	wantBodyFaults(t, []bodyFault{
		{"print(one(1))", impl.ErrCount, impl.NdCall, 1},
		{"print(none(1))", impl.ErrCount, impl.NdCall, 1},
		{"print(give(one(2), b, c))", impl.ErrCount, impl.NdCall, 2},
		{"print(-(1 + one(2)))", impl.ErrCount, impl.NdCall, 1},
	})
}

func TestSteps(t *testing.T) {
	wantFineBody(t, "i++; i--", "x := 1; x++; { x-- }", "select { case v := <-c: v++ }")
	wantBodyFaults(t, []bodyFault{
		{"b++", impl.ErrType, impl.NdStep, 1},
		{"b--", impl.ErrType, impl.NdStep, 1},
		{"i++; c++", impl.ErrType, impl.NdStep, 2},
		{"x := true; x--", impl.ErrType, impl.NdStep, 1},
		{"one++", impl.ErrName, impl.NdStep, 1},
	})
}

func TestReturns(t *testing.T) {
	wantFineBody(t, "return", "if b { return }; return; return")
	wantFine(t, "func f() int { return 1; return 2 }", "func f(b bool) bool { if b { return b }; return !b }", "func f() chan int { return make(chan int) }")
	wantBodyFaults(t, []bodyFault{
		{"return 1", impl.ErrResult, impl.NdReturn, 1},
		{"return none()", impl.ErrResult, impl.NdReturn, 1},
		{"return; return x", impl.ErrResult, impl.NdReturn, 2},
		{"for { select { default: return true } }", impl.ErrResult, impl.NdReturn, 1},
	})
	for _, result := range []string{"int", "bool", "chan int"} {
		wantFaultAt(t, "func f() "+result+" { return }", impl.ErrResult, impl.NdReturn, 1)
		wantFaultAt(t, "func f() "+result+" { for { return } }", impl.ErrResult, impl.NdReturn, 1)
		wantFaultAt(t, "func f() "+result+" { return g() }\nfunc g() {}", impl.ErrResult, impl.NdCall, 1)
	}
	// What a function returns hangs on no other function.
	wantFaultAt(t, "func f() int { return 1 }\nfunc g() { return 1 }", impl.ErrResult, impl.NdReturn, 2)
	wantFaultAt(t, "func f() { return }\nfunc g() int { return }", impl.ErrResult, impl.NdReturn, 2)
	wantFaultAt(t, "func f() int { return 1 }\nfunc g() bool { return 1 }", impl.ErrType, impl.NdInt, 2)
}

func TestBreakAndContinue(t *testing.T) {
	wantFineBody(t,
		"for { break }", "for { continue }", "for b { break; continue }",
		"select { default: break }", "select { case <-c: break }", "select { case c <- 1: break; case v := <-c: break }",
		"for { if b { break } else if b { continue } else { { break } } }",
		"for { select { case <-c: continue; default: break } }",
		"select { default: for { continue; break } }",
		"for { for { break }; break; for b { continue }; continue }",
		"for { select { default: }; continue }", "select { default: select { default: }; break }",
	)
	wantBodyFaults(t, []bodyFault{
		{"break", impl.ErrPlace, impl.NdBreak, 1},
		{"continue", impl.ErrPlace, impl.NdContinue, 1},
		{"if b { break }", impl.ErrPlace, impl.NdBreak, 1},
		{"if b {} else { continue }", impl.ErrPlace, impl.NdContinue, 1},
		{"{ { break } }", impl.ErrPlace, impl.NdBreak, 1},
		{"select { default: continue }", impl.ErrPlace, impl.NdContinue, 1},
		{"select { case <-c: if b { continue } }", impl.ErrPlace, impl.NdContinue, 1},
		{"for { break }; break", impl.ErrPlace, impl.NdBreak, 2},
		{"for b { continue }; continue", impl.ErrPlace, impl.NdContinue, 2},
		{"select { default: break }; break", impl.ErrPlace, impl.NdBreak, 2},
		{"select { default: for { continue }; continue }", impl.ErrPlace, impl.NdContinue, 2},
		{"for { select { default: break } }; break", impl.ErrPlace, impl.NdBreak, 2},
	})
	wantFaultAt(t, "func f() { for { } }\nfunc g() { break }", impl.ErrPlace, impl.NdBreak, 1)
	wantFaultAt(t, "func f() { for { g() } }\nfunc g() { continue }", impl.ErrPlace, impl.NdContinue, 1)
}

func TestDefaults(t *testing.T) {
	wantFineBody(t, "select {}", "select { default: }", "select { case <-c: default: case c <- 1: }", "select { default: select { default: } }", "select { default: }; select { default: }", "select { case <-c: select { default: } default: }")
	wantBodyFaults(t, []bodyFault{
		{"select { default: default: }", impl.ErrTwice, impl.NdCase, 2},
		{"select { default: default: default: }", impl.ErrTwice, impl.NdCase, 2},
		{"select { default: case <-c: default: }", impl.ErrTwice, impl.NdCase, 3},
		{"select { case <-c: default: case c <- 1: default: }", impl.ErrTwice, impl.NdCase, 4},
		{"select { default: select { default: default: } }", impl.ErrTwice, impl.NdCase, 3},
		{"select { default: select { default: } default: }", impl.ErrTwice, impl.NdCase, 3},
	})
}

func TestNamesOfFunctions(t *testing.T) {
	wantFine(t, "", "func f() {}", "func f() {}\nfunc g() {}", "func f() { g() }\nfunc g() { f() }", "func f() int { return f() }")
	wantFaultAt(t, "func f() {}\nfunc f() {}", impl.ErrTwice, impl.NdFunc, 2)
	wantFaultAt(t, "func f() {}\nfunc g() {}\nfunc g() {}\nfunc f() {}", impl.ErrTwice, impl.NdFunc, 3)
	wantFaultAt(t, "func f(a int, b int) int { if true { return 1 } else { return a * b + 2 } }\nfunc g() { for { print(1) } }\nfunc f() {}", impl.ErrTwice, impl.NdFunc, 3)
	wantFaultAt(t, "func f(a int) {}\nfunc f(a bool, b int) int { return 1 }", impl.ErrTwice, impl.NdFunc, 2)
	wantFine(t, "func f() {}\nfunc F() {}\nfunc ff() {}\nfunc f1() {}\nfunc _() {}")
}

func TestTypesByNumber(t *testing.T) {
	const n, i, b, c = impl.TyNone, impl.TyInt, impl.TyBool, impl.TyChan
	for text, want := range map[string][]int{
		"":                                     {n},
		"func f() {}":                          {n, n, n},
		"func f(i int, b bool, c chan int) {}": {n, n, n, n, n, n},
		"func f() int { return 1 }":            {n, n, n, n, i},
		"func f() { {} }":                      {n, n, n, n},
		"func f() { x := 1; x = 2; x++ }":      {n, n, n, n, i, n, i, n},
		"func f() { x := true; print(x) }":     {n, n, n, n, b, n, b},
		"func f(c chan int) { c <- <-c }":      {n, n, n, n, n, c, i, c},
		"func f(c chan int) { <-c; close(c) }": {n, n, n, n, n, i, c, n, c},
		"func f() { f(); go f(); defer f() }":  {n, n, n, n, n, n, n, n, n},
		"func f() int { f(); panic(f()) }":     {n, n, n, n, i, n, i},
		"func f() bool { go f(); return f() }": {n, n, n, n, b, n, b},
		"func f() chan int { return f() }":     {n, n, n, n, c},
		"func f(a int) { f(-a) }":              {n, n, n, n, n, n, i, i},
		"func f(c chan int) { c = make(chan int); c = make(chan int, 1 + 2) }":                      {n, n, n, n, n, c, n, c, i, i, i},
		"func f(b bool) { if !b {} else if true {} else {} }":                                       {n, n, n, n, n, b, b, n, n, b, n, n},
		"func f() { for {break}; for 1 < 2 {continue} }":                                            {n, n, n, n, n, n, n, b, i, i, n, n},
		"func f(c chan int) { select { case v := <-c: print(v) case c <- 1: case <-c: default: } }": {n, n, n, n, n, n, c, n, n, i, n, c, i, n, n, c, n, n, n},
		"func f(c chan int) { x := c == c && (1 + 2*3 > 4 || false) }":                              {n, n, n, n, n, b, b, c, c, b, b, i, i, i, i, i, i, b},
		"func f() {}\nfunc g(a int) bool { x := g(1); return x }":                                   {n, n, n, n, n, n, n, b, i, n, b},
	} {
		if got, code, at := impl.TypesOf(treeOf(t, text)); code != impl.OK || at != 0 || !slices.Equal(got, want) {
			t.Errorf("TypesOf(%q) = %v, %d, %d; not %v", text, got, code, at, want)
		}
	}
}

func TestNamesOfTests(t *testing.T) {
	for text, want := range map[string]string{
		"":                              "",
		"func f() {}":                   "",
		"func Test() {}":                "Test",
		"func TestA() {}":               "TestA",
		"func Tests_9() {}":             "Tests_9",
		"func test() {}":                "",
		"func tEST() {}":                "",
		"func TEST() {}":                "",
		"func Tes() {}":                 "",
		"func ATest() {}":               "",
		"func _Test() {}":               "",
		"func TestA(a int) {}":          "",
		"func TestA() int { return 1 }": "",
		"func TestA(a bool) chan int { return make(chan int) }":                                                                         "",
		"func TestB() {}\nfunc f() {}\nfunc TestA() {}\nfunc Test() {}":                                                                 "TestB TestA Test",
		"func TestB(b bool) {}\nfunc TestA() {}\nfunc TestC() bool { return true }\nfunc testD() { TestA() }\nfunc TestE() { testD() }": "TestA TestE",
	} {
		names, code := impl.TestsOf(treeOf(t, text))
		if code != impl.OK || strings.Join(names, " ") != want {
			t.Errorf("TestsOf(%q) = %q, %d; not %s", text, names, code, want)
		}
	}
	var text strings.Builder
	var want []string
	for i := range 199 {
		want = append(want, "Test"+strconv.Itoa(i*7919%1000))
		text.WriteString("func " + want[i] + "() {}\n")
	}
	if names, code := impl.TestsOf(treeOf(t, text.String())); code != impl.OK || !slices.Equal(names, want) {
		t.Errorf("of many tests there are %d, with code %d", len(names), code)
	}
}

func TestNoTestsBesideAFault(t *testing.T) {
	for text, code := range map[string]int{
		"func TestA() {}\nfunc TestA() {}":               impl.ErrTwice,
		"func TestA() {}\nfunc f() { print(x) }":         impl.ErrName,
		"func TestA() { print(f()) }\nfunc f() {}":       impl.ErrResult,
		"func TestA() {}\nfunc f() int {}":               impl.ErrResult,
		"func TestA() { 	print(1 + true) }":              impl.ErrType,
		"func TestA() { TestA(1) }":                      impl.ErrCount,
		"func TestB() {}\nfunc TestA() { { continue } }": impl.ErrPlace,
	} {
		if names, got := impl.TestsOf(treeOf(t, text)); got != code || len(names) != 0 {
			t.Errorf("TestsOf(%q) = %q, %d; not %d", text, names, got, code)
		}
	}
}
