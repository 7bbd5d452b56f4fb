package tests

import (
	"testing"

	"loop.example/g00135/impl"
)

func TestFunctionsOfOneNameGoAhead(t *testing.T) {
	for _, c := range []string{
		"func f() { print(x) }\nfunc g() {}\nfunc g() {}",
		"func f(a int, a int) {}\nfunc f() {}",
		"func f() int {}\nfunc f() {}",
		"func f() { break }\nfunc f() { continue }",
		"func f() { f(1) }\nfunc f(a int) {}",
		"func f() { x() }\nfunc g() { return 1 }\nfunc h() {}\nfunc f() {}",
	} {
		n := treeOf(t, c)
		wantCheck(t, n, impl.ErrTwice, placeOf(t, n, impl.NdFunc, len(n.Kids)))
	}
}

func TestFunctionByFunction(t *testing.T) {
	wantFaultAt(t, "func f() { print(x) }\nfunc g(a int, a int) {}", impl.ErrName, impl.NdVar, 1)
	wantFaultAt(t, "func f() { break }\nfunc g() { print(x) }", impl.ErrPlace, impl.NdBreak, 1)
	wantFaultAt(t, "func f() int { }\nfunc g() { print(x) }", impl.ErrResult, impl.NdFunc, 1)
	wantFaultAt(t, "func f() { }\nfunc g() int { print(x) }", impl.ErrName, impl.NdVar, 1)
	wantFaultAt(t, "func f() int { }\nfunc g() int { }", impl.ErrResult, impl.NdFunc, 1)
	wantFaultAt(t, "func f() int { return 1 }\nfunc g() int { }\nfunc h(a int, a int) { }", impl.ErrResult, impl.NdFunc, 2)
	// Parameters go ahead of the block, and this of the function's end.
	wantFaultAt(t, "func f(a int, a int) int { print(x) }", impl.ErrTwice, impl.NdParam, 2)
	wantFaultAt(t, "func f(a int) int { print(x) }", impl.ErrName, impl.NdVar, 1)
	wantFaultAt(t, "func f() int { { return } }", impl.ErrResult, impl.NdReturn, 1)
	wantFaultAt(t, "func f() int { if true { return false } }", impl.ErrType, impl.NdBool, 2)
	wantFaultAt(t, "func f() int { a := 1; a := 2 }", impl.ErrTwice, impl.NdDefine, 2)
}

func TestOfTwoFaultsInOneStatementTheFirst(t *testing.T) {
	wantBodyFaults(t, []bodyFault{
		// An NdDefine: its expression with its value, then its name.
		{"i := x", impl.ErrName, impl.NdVar, 1},
		{"i := none()", impl.ErrResult, impl.NdCall, 1},
		{"i := 1 + true", impl.ErrType, impl.NdBool, 1},
		{"i := one(2)", impl.ErrCount, impl.NdCall, 1},
		// An NdAssign: its name, then its expression.
		{"x = y", impl.ErrName, impl.NdAssign, 1},
		{"x = none()", impl.ErrName, impl.NdAssign, 1},
		{"x = 1 + true", impl.ErrName, impl.NdAssign, 1},
		{"i = x", impl.ErrName, impl.NdVar, 1},
		{"i = none()", impl.ErrResult, impl.NdCall, 1},
		{"i = true && 1", impl.ErrType, impl.NdInt, 1},
		// A call: its name, its count, then its arguments, each whole.
		{"x(y)", impl.ErrName, impl.NdCall, 1},
		{"take(x)", impl.ErrCount, impl.NdCall, 1},
		{"none(none())", impl.ErrCount, impl.NdCall, 1},
		{"take(1, 2, 3, 4)", impl.ErrCount, impl.NdCall, 1},
		{"take(x, y, z)", impl.ErrName, impl.NdVar, 1},
		{"take(b, x, c)", impl.ErrType, impl.NdVar, 1},
		{"take(none(), x, c)", impl.ErrResult, impl.NdCall, 2},
		{"take(i, i, x)", impl.ErrType, impl.NdVar, 2},
		{"take(i, b == x, b)", impl.ErrName, impl.NdVar, 3},
		{"take(1 + true, x, c)", impl.ErrType, impl.NdBool, 1},
		{"take(one(2), x, c)", impl.ErrCount, impl.NdCall, 2},
		{"print(none(x))", impl.ErrCount, impl.NdCall, 1},
		{"print(take(x, b, c))", impl.ErrName, impl.NdVar, 1},
		{"print(take(b, b, c))", impl.ErrType, impl.NdVar, 1},
		// Sides, each whole.
		{"print(b + x)", impl.ErrType, impl.NdVar, 1},
		{"print(none() + x)", impl.ErrResult, impl.NdCall, 1},
		{"print(x + none())", impl.ErrName, impl.NdVar, 1},
		{"print(b < b)", impl.ErrType, impl.NdVar, 1},
		{"print(i && x)", impl.ErrType, impl.NdVar, 1},
		{"print(i == none())", impl.ErrResult, impl.NdCall, 1},
		{"print(none() == none())", impl.ErrResult, impl.NdCall, 1},
		{"print(none() == x)", impl.ErrResult, impl.NdCall, 1},
		{"print((i + b) == x)", impl.ErrType, impl.NdVar, 2},
		{"print(c == (b + 1))", impl.ErrType, impl.NdVar, 2},
		{"print(-(b + 1) + x)", impl.ErrType, impl.NdVar, 1},
		{"x := -none()", impl.ErrResult, impl.NdCall, 1},
		{"x := !-b", impl.ErrType, impl.NdVar, 1},
		{"x := !-i", impl.ErrType, impl.NdUnary, 2},
		{"x := <-<-c", impl.ErrType, impl.NdRecv, 2},
		// A value of another type is told behind what is in it.
		{"print(make(chan int, x))", impl.ErrName, impl.NdVar, 1},
		{"close(1 + x)", impl.ErrName, impl.NdVar, 1},
		{"close(1 + i)", impl.ErrType, impl.NdBinary, 1},
		{"i <- x", impl.ErrType, impl.NdVar, 1},
		{"none() <- x", impl.ErrResult, impl.NdCall, 1},
		{"c <- make(chan int, x)", impl.ErrName, impl.NdVar, 2},
		{"c <- make(chan int, b)", impl.ErrType, impl.NdVar, 2},
		{"c <- make(chan int, i)", impl.ErrType, impl.NdMake, 1},
		{"return x", impl.ErrResult, impl.NdReturn, 1},
	})
	wantFaultAt(t, "func f() int { return x }", impl.ErrName, impl.NdVar, 1)
	wantFaultAt(t, "func f() int { return -true }", impl.ErrType, impl.NdBool, 1)
}

func TestOfTwoFaultsInTwoStatementsTheFirst(t *testing.T) {
	wantBodyFaults(t, []bodyFault{
		{"print(x); i := 1", impl.ErrName, impl.NdVar, 1},
		{"i := 1; print(x)", impl.ErrTwice, impl.NdDefine, 1},
		{"break; print(x)", impl.ErrPlace, impl.NdBreak, 1},
		{"{ print(x) }; break", impl.ErrName, impl.NdVar, 1},
		{"if i { print(x) }", impl.ErrType, impl.NdVar, 1},
		{"if none() { print(x) }", impl.ErrResult, impl.NdCall, 1},
		{"if b { print(x) } else { break }", impl.ErrName, impl.NdVar, 2},
		{"if b { break } else if i {}", impl.ErrPlace, impl.NdBreak, 1},
		{"for i { print(x) }", impl.ErrType, impl.NdVar, 1},
		{"for b { print(x) }; continue", impl.ErrName, impl.NdVar, 2},
		// A case: a second default, its channel, its value, its block; then the next one.
		{"select { default: print(x) default: }", impl.ErrName, impl.NdVar, 1},
		{"select { default: default: print(x) }", impl.ErrTwice, impl.NdCase, 2},
		{"select { default: case <-x: default: }", impl.ErrName, impl.NdVar, 1},
		{"select { case i <- x: }", impl.ErrType, impl.NdVar, 1},
		{"select { case none() <- x: }", impl.ErrResult, impl.NdCall, 1},
		{"select { case c <- b: print(x) }", impl.ErrType, impl.NdVar, 2},
		{"select { case <-i: print(x) }", impl.ErrType, impl.NdVar, 1},
		{"select { case v := <-i: v := x }", impl.ErrType, impl.NdVar, 1},
		{"select { case v := <-c: v := x }", impl.ErrName, impl.NdVar, 2},
		{"select { case v := <-c: print(x) case <-i: }", impl.ErrName, impl.NdVar, 2},
		{"select { case <-c: continue case <-i: }", impl.ErrPlace, impl.NdContinue, 1},
	})
}

// Each list has a tree that is wrong and checks but for that, and one that has a fault besides.
func TestTreesThatAreNotRightGoAhead(t *testing.T) {
	for _, wrong := range []impl.Node{
		node(impl.NdPrint), node(impl.NdPrint, numbered(impl.NdInt, -1)), node(impl.NdPick), node(impl.NdSelect, node(impl.NdBlock)), plainOf(impl.NdCase), plainOf(impl.NdInt),
		named(impl.NdDefine, "if", whole(1)), named(impl.NdDefine, "", whole(1)), node(impl.NdExpr, whole(1)), node(impl.NdPrint, named(impl.NdUnary, "+", whole(1))), node(impl.NdPrint, twoSides("=", whole(1), whole(1))),
		{Kind: impl.NdBlock, N: 1}, {Kind: impl.NdBlock, Name: "a"}, {Kind: impl.NdReturn, N: 1}, {}, {Kind: -1}, {Kind: 99},
	} {
		wantCheck(t, fileOf(wrong), impl.ErrBad, 0)
		wantCheck(t, fileOf(node(impl.NdBreak), wrong), impl.ErrBad, 0)
		wantCheck(t, node(impl.NdFile, plainOf(impl.NdFunc), plainOf(impl.NdFunc), function("g", impl.TyInt, blockOf(wrong))), impl.ErrBad, 0)
		wantCheck(t, wrong, impl.ErrBad, 0)
	}
	for kind := range len(kidLetters) {
		if kind != impl.NdFile {
			wantCheck(t, plainOf(kind), impl.ErrBad, 0)
		}
	}
}

func TestChecksOfTreesOfMaxNodes(t *testing.T) {
	empty := func(statements int) impl.Node {
		return fileOf(make([]impl.Node, statements)...)
	}
	for _, c := range []struct {
		tree     impl.Node
		code, at int
	}{
		{deepTree(595), impl.OK, 0}, {deepTree(596), impl.ErrBad, 0}, {deepTree(100000), impl.ErrBad, 0},
		{leftTree(297), impl.OK, 0}, {leftTree(298), impl.ErrBad, 0}, {leftTree(100000), impl.ErrBad, 0},
		{wideTree(597), impl.ErrPlace, 3}, {wideTree(598), impl.ErrBad, 0}, {wideTree(100000), impl.ErrBad, 0},
		{manyFunctions(1), impl.OK, 0}, {manyFunctions(299), impl.ErrTwice, 3}, {manyFunctions(300), impl.ErrBad, 0},
		{empty(1), impl.ErrBad, 0}, {node(impl.NdFile), impl.OK, 0}, {impl.Node{}, impl.ErrBad, 0},
	} {
		wantCheck(t, c.tree, c.code, c.at)
	}
	blocks := blockOf()
	for range 596 {
		blocks = blockOf(blocks)
	}
	wantCheck(t, fileOf(blocks), impl.OK, 0)
	wantCheck(t, fileOf(blockOf(blocks)), impl.ErrBad, 0)
	// The last node of all may be the one at fault.
	last := variable("x")
	for range 595 {
		last = named(impl.NdUnary, "-", last)
	}
	wantCheck(t, fileOf(node(impl.NdPrint, last)), impl.ErrName, impl.MaxNodes-1)
	kids := make([]impl.Node, 1)
	kids[0] = impl.Node{Kind: impl.NdBlock, Kids: kids}
	if code, at := impl.Check(fileOf(kids...)); code != impl.ErrBad || at != 0 {
		t.Errorf("a block that stands in itself has code %d at %d", code, at)
	}
}
