package tests

import (
	"strings"
	"testing"

	"loop.example/g00135/impl"
)

func TestScopesOfVariables(t *testing.T) {
	wantFineBody(t,
		"x := 1; print(x); x = 2; x++",
		"x := 1; { print(x); x = 2 }; if b { x++ } else { x-- }; for b { x++ }; select { default: x++ }",
		"{ x := 1; print(x) }; { x := true; if x {} }; x := c; close(x)",
		"x := 1; { { { print(x + 1) } } }",
		"if b { x := 1; x++ } else { x := c; close(x) }",
		"for b { x := 1; x++ }; x := true; if x {}",
		"x := 1; y := x; z := x + y; print(z)",
	)
	wantBodyFaults(t, []bodyFault{
		{"print(x); x := 1", impl.ErrName, impl.NdVar, 1},
		{"x = 2; x := 1", impl.ErrName, impl.NdAssign, 1},
		{"x++; x := 1", impl.ErrName, impl.NdStep, 1},
		{"x := x", impl.ErrName, impl.NdVar, 1},
		{"x := 1 + x", impl.ErrName, impl.NdVar, 1},
		{"{ x := 1 }; print(x)", impl.ErrName, impl.NdVar, 1},
		{"{ x := 1 }; { print(x) }", impl.ErrName, impl.NdVar, 1},
		{"{ print(x) }; x := 1", impl.ErrName, impl.NdVar, 1},
		{"{ { x := 1 }; x++ }", impl.ErrName, impl.NdStep, 1},
		{"if b { x := 1 } else { print(x) }", impl.ErrName, impl.NdVar, 2},
		{"if b { x := 1 } else if x {}", impl.ErrName, impl.NdVar, 2},
		{"if b { x := 1 }; print(x)", impl.ErrName, impl.NdVar, 2},
		{"for b { x := 1 }; print(x)", impl.ErrName, impl.NdVar, 2},
		{"for { print(x); x := 1 }", impl.ErrName, impl.NdVar, 1},
		{"for x { x := true }", impl.ErrName, impl.NdVar, 1},
		{"select { default: x := 1 }; print(x)", impl.ErrName, impl.NdVar, 1},
		{"select { case <-c: x := 1 case c <- x: }", impl.ErrName, impl.NdVar, 3},
	})
}

func TestTheInnermostCounts(t *testing.T) {
	wantFineBody(t,
		"x := 1; { x := true; if x {} }; x++",
		"x := 1; { x := x + 1; x++ }",
		"x := 1; { x++; x := true; if x {}; { x := c; close(x) }; if x {} }; x++",
		"x := 1; { x := x == 1; { x := !x; if x {} } }",
		"{ i := true; if i {} }; i++", "if b { b := 1; b++ } else if b { b := c; close(b) }",
		"for b { b := 1; b++ }", "select { case c <- i: c := 1; c++; i := b; if i {} }",
	)
	wantBodyFaults(t, []bodyFault{
		{"x := 1; { x := true; x++ }", impl.ErrType, impl.NdStep, 1},
		{"x := 1; { x := true; x = 1 }", impl.ErrType, impl.NdInt, 2},
		{"x := 1; { x := true }; x = true", impl.ErrType, impl.NdBool, 2},
		{"x := true; { x++; x := 1 }", impl.ErrType, impl.NdStep, 1},
		{"x := true; { { x := 1 }; x++ }", impl.ErrType, impl.NdStep, 1},
		{"{ i := true; i++ }", impl.ErrType, impl.NdStep, 1},
		{"x := true; { x := x + 1 }", impl.ErrType, impl.NdVar, 1},
	})
}

func TestNamesThatAreThereAlready(t *testing.T) {
	wantBodyFaults(t, []bodyFault{
		{"x := 1; x := 2", impl.ErrTwice, impl.NdDefine, 2},
		{"x := 1; x := true", impl.ErrTwice, impl.NdDefine, 2},
		{"x := 1; y := 2; { x := 3 }; x := 4", impl.ErrTwice, impl.NdDefine, 4},
		{"x := 1; x := x", impl.ErrTwice, impl.NdDefine, 2},
		{"{ x := 1; x := 2 }", impl.ErrTwice, impl.NdDefine, 2},
		{"{ x := 1 }; x := 2; x := 3", impl.ErrTwice, impl.NdDefine, 3},
		{"if b { x := 1; x := 2 }", impl.ErrTwice, impl.NdDefine, 2},
		{"if b {} else { x := 1; x := 2 }", impl.ErrTwice, impl.NdDefine, 2},
		{"for { x := 1; x := 2 }", impl.ErrTwice, impl.NdDefine, 2},
		{"select { default: x := 1; x := 2 }", impl.ErrTwice, impl.NdDefine, 2},
		// Parameters stand in the scope of the outermost block.
		{"i := 1", impl.ErrTwice, impl.NdDefine, 1},
		{"b := 1", impl.ErrTwice, impl.NdDefine, 1},
		{"x := 1; { c := c; close(c) }; c := x", impl.ErrTwice, impl.NdDefine, 3},
	})
}

func TestScopesOfParameters(t *testing.T) {
	wantFine(t, "func f(a int, b bool, c chan int) { c <- a; if b { a++ } }", "func f(a int) {}\nfunc g(a bool) {}", "func f(a int) { a++ }\nfunc g() { a := true; if a {} }")
	for _, c := range []struct {
		text       string
		code, kind int
		nth        int
	}{
		{"func f(a int, a int) {}", impl.ErrTwice, impl.NdParam, 2},
		{"func f(a int, a bool) {}", impl.ErrTwice, impl.NdParam, 2},
		{"func f(a int, b bool, a chan int) {}", impl.ErrTwice, impl.NdParam, 3},
		{"func f(a int, b int, b int, a int) {}", impl.ErrTwice, impl.NdParam, 3},
		{"func g(a int) {}\nfunc f(a int, a int) {}", impl.ErrTwice, impl.NdParam, 3},
		{"func f(a int) { a := 1 }", impl.ErrTwice, impl.NdDefine, 1},
		{"func f(a int) {}\nfunc g() { a++ }", impl.ErrName, impl.NdStep, 1},
		{"func f() { x := 1; print(x) }\nfunc g() { print(x) }", impl.ErrName, impl.NdVar, 2},
		{"func f(a bool) {}\nfunc g(a int) { if a {} }", impl.ErrType, impl.NdVar, 1},
	} {
		wantFaultAt(t, c.text, c.code, c.kind, c.nth)
	}
}

func TestScopesOfCases(t *testing.T) {
	wantFineBody(t,
		"select { case v := <-c: print(v); v++ }",
		"select { case v := <-c: { v := true; if v {} }; v++ }",
		"select { case v := <-c: v++ case v := <-c: v--; default: v := true; if v {} }; v := c; close(v)",
		// A case's block is a scope of its own, whatever stands around it.
		"v := true; select { case v := <-c: v++ }; if v {}",
		"select { case i := <-c: i++ case b := <-c: b++ case c := <-c: c++ }; close(c)",
		"select { case v := <-c: select { case v := <-c: v++ } }",
		"v := c; select { case v := <-v: v++ }",
		"for { select { case v := <-c: if v == 1 { break }; continue } }",
	)
	wantBodyFaults(t, []bodyFault{
		{"select { case v := <-c: v := 1 }", impl.ErrTwice, impl.NdDefine, 1},
		{"select { case v := <-c: v := true }", impl.ErrTwice, impl.NdDefine, 1},
		{"select { case v := <-c: { v := 1 }; v := 2 }", impl.ErrTwice, impl.NdDefine, 2},
		{"select { case v := <-v: }", impl.ErrName, impl.NdVar, 1},
		{"select { case v := <-c: case <-v: }", impl.ErrName, impl.NdVar, 2},
		{"select { case v := <-c: case c <- v: }", impl.ErrName, impl.NdVar, 3},
		{"select { case v := <-c: case <-c: v++ }", impl.ErrName, impl.NdStep, 1},
		{"select { case v := <-c: default: print(v) }", impl.ErrName, impl.NdVar, 2},
		{"select { case v := <-c: }; v = 1", impl.ErrName, impl.NdAssign, 1},
		{"select { case v := <-c: v = true }", impl.ErrType, impl.NdBool, 1},
		{"select { case v := <-c: close(v) }", impl.ErrType, impl.NdVar, 2},
		{"v := true; select { case v := <-c: if v {} }", impl.ErrType, impl.NdVar, 2},
	})
}

func TestVariablesAndFunctionsApart(t *testing.T) {
	wantFine(t,
		"func f() { f := 1; f++; f(); print(f) }",
		"func f(f int) { f(f) }",
		"func f(g int) { g(g == 1) }\nfunc g(g bool) { if g {} }",
		"func f(c chan int) { select { case f := <-c: f++; f(c) } }",
		"func f() { g := 1; { h := g(); g = h } }\nfunc g() int { return 1 }",
	)
	wantFaultAt(t, "func f() { print(f) }", impl.ErrName, impl.NdVar, 1)
	wantFaultAt(t, "func f() { f = 1 }", impl.ErrName, impl.NdAssign, 1)
	wantFaultAt(t, "func f() { x := 1; x() }", impl.ErrName, impl.NdCall, 1)
	wantFaultAt(t, "func f(x int) { go x() }", impl.ErrName, impl.NdCall, 1)
	wantFaultAt(t, "func f() { g := 1; print(g()) }\nfunc g() {}", impl.ErrResult, impl.NdCall, 1)
}

// withResult is a function with a result of any type; what its body returns is made one of that type.
func withResult(of, body string) string {
	value := map[string]string{"int": "a", "bool": "a == 1", "chan int": "make(chan int, a)"}[of]
	for _, digit := range []string{"1", "2"} {
		body = strings.ReplaceAll(body, "return "+digit, "return of("+digit+")")
	}
	return "func f(i int, b bool, c chan int) " + of + " {\n" + body + "\n}\nfunc of(a int) " + of + " { return " + value + " }\nfunc one() int { return 1 }\n"
}

// Blocks of a function with a result, that end and that may go on.
func TestBlocksThatEnd(t *testing.T) {
	ends := []string{
		"return 1", "panic(1)", "print(1); return 1", "return 1; return 2", "for { break }; return 1",
		"{ return 1 }", "{ { panic(2) } }", "{ print(1) }; { return 1 }",
		"if b { return 1 } else { return 2 }", "if b { panic(1) } else { return 2 }", "if b { return 1 } else if b { return 2 } else { panic(3) }",
		"if b { print(1); return 1 } else { { return 2 } }", "if b { if b { return 1 } else { return 2 } } else { for { } }",
		"for { }", "for { print(1) }", "for { continue }", "for { return 1 }", "for { if b { return 1 } }",
		"for { for { break } }", "for { for b { break } }", "for { select { default: break } }", "for { select { case <-c: if b { break } } }",
		"for { for { for { break }; break } }", "for { if b { for { { break } } } else { select { case v := <-c: { break } } } }",
		"for { select { default: for { break }; break } }", "{ for { } }", "for b { break }; for { }",
	}
	goesOn := []string{
		"", "print(1)", "return 1; print(1)", "return 1; x := 1", "return 1; {}", "panic(1); one()", "return 1; i++",
		"{}", "{ return 1; i++ }", "{ return 1 }; i++", "{ return 1; {} }",
		"if b { return 1 }", "if b { return 1 } else {}", "if b {} else { return 1 }", "if true { return 1 }",
		"if b { return 1 } else if b { return 2 }", "if b { return 1 } else if b { return 2 } else {}", "if b { return 1 } else if b {} else { return 2 }", "if b {} else if b { return 1 } else { return 2 }",
		"for b { }", "for true { }", "for b { return 1 }", "for true { panic(1) }",
		"for { break }", "for { return 1; break }", "for { if b { break } }", "for { if b {} else { break } }", "for { if b {} else if b { break } }", "for { { { break } } }", "for { break; for { } }", "for { for { break }; break }",
		"for { select { default: break }; break }", "for { for b { }; if b { break } }",
		"select {}", "select { default: return 1 }", "select { case <-c: return 1 }", "select { case <-c: return 1 default: panic(2) }", "select { default: for { } }",
		"for { }; print(1)", "go one()", "defer one()", "close(c)", "c <- 1", "<-c", "i = 1", "if b { return 1 } else { return 2 }; i--",
	}
	for _, of := range []string{"int", "bool", "chan int"} {
		for _, body := range ends {
			wantFine(t, withResult(of, body))
		}
		for _, body := range goesOn {
			n := treeOf(t, withResult(of, body))
			wantCheck(t, n, impl.ErrResult, 1)
			n.Kids[0], n.Kids[1] = n.Kids[1], n.Kids[0]
			wantCheck(t, n, impl.ErrResult, 1+impl.Size(n.Kids[0]))
		}
	}
	for _, body := range goesOn {
		if !strings.Contains(body, "return") {
			wantFineBody(t, body)
		}
	}
}
