package tests

import (
	"fmt"
	"math"
	"reflect"
	"slices"
	"strings"
	"testing"

	"loop.example/g00135/impl"
)

func pickOf(n int, kids ...impl.Node) impl.Node { return numbered(impl.NdPick, n, kids...) }

// alike holds any trees against each other, an empty list being nil.
func alike(a, b impl.Node) bool { return reflect.DeepEqual(emptyAsNil(a), emptyAsNil(b)) }

func woven(t *testing.T, n impl.Node) impl.Node {
	t.Helper()
	w, code := impl.Weave(n)
	if code != impl.OK {
		t.Fatalf("Weave of %.500s has code %d", show(n), code)
	}
	return w
}

// wantAllChosen asks that a woven tree is its tree and all mutants of that, and has no more numbers.
func wantAllChosen(t *testing.T, n, w impl.Node) {
	t.Helper()
	list, code := impl.Mutants(n)
	if count, picksCode := impl.Picks(w); code != impl.OK || picksCode != impl.OK || count != len(list) || !impl.WovenOK(w) {
		t.Fatalf("of %d mutants, with code %d, woven are %d with code %d: %.2000s", len(list), code, count, picksCode, show(w))
	}
	if plain, code := impl.Choose(w, 0); code != impl.OK || !alike(plain, n) {
		t.Fatalf("chosen by 0 is %.2000s with code %d, not %.2000s", show(plain), code, show(n))
	}
	for i, m := range list {
		want, _ := impl.Mutate(n, m)
		if got, code := impl.Choose(w, i+1); code != impl.OK || !alike(got, want) {
			t.Fatalf("chosen by %d is %.2000s with code %d, not %v: %.2000s", i+1, show(got), code, m, show(want))
		}
	}
	for _, selector := range []int{-1, math.MinInt, len(list) + 1, len(list) + 2, 1 << 32, math.MaxInt} {
		if got, code := impl.Choose(w, selector); code != impl.ErrRange || !isZeroNode(got) {
			t.Fatalf("chosen by %d of %d is %.500s with code %d", selector, len(list), show(got), code)
		}
	}
}

// wantWovenBody asks for the statements of a function's woven body; those beside it have no mutants.
func wantWovenBody(t *testing.T, body, want string) {
	t.Helper()
	n := treeOf(t, toMutate(body))
	w := woven(t, n)
	others := showAll(w.Kids[1:])
	if got := show(w.Kids[0].Kids[3]); got != "(block "+want+")" || others != showAll(n.Kids[1:]) {
		t.Errorf("%q is woven as\n%s, not\n(block %s)", body, got, want)
	}
	wantAllChosen(t, n, w)
}

func TestOneMutantOrSeveralOfANode(t *testing.T) {
	for body, want := range map[string]string{
		"x := 0":                             "(define x (pick 1 (int) (int 1)))",
		"x := 5":                             "(define x (pick 1 (int 5) (int 6) (int)))",
		"x := 999999999999999999":            "(define x (pick 1 (int 999999999999999999) (int)))",
		"x := true":                          "(define x (pick 1 (bool 1) (bool)))",
		"x := !false":                        "(define x (unary ! (pick 1 (bool) (bool 1))))",
		"x := b == b":                        "(define x (pick 1 (binary == (var b) (var b)) (binary != (var b) (var b))))",
		"x := b || b":                        "(define x (pick 1 (binary || (var b) (var b)) (binary && (var b) (var b))))",
		"x := i % i":                         "(define x (pick 1 (binary % (var i) (var i)) (binary + (var i) (var i)) (binary - (var i) (var i)) (binary * (var i) (var i)) (binary / (var i) (var i))))",
		"if b {}":                            "(pick 1 (if (var b) (block)) (if (unary ! (var b)) (block)))",
		"if b {} else { return }":            "(pick 1 (if (var b) (block) (block (return))) (if (unary ! (var b)) (block) (block (return))) (if (var b) (block (return)) (block)))",
		"if b {} else {}":                    "(pick 1 (if (var b) (block) (block)) (if (unary ! (var b)) (block) (block)))",
		"for b { continue }":                 "(pick 1 (for (var b) (block (continue))) (for (unary ! (var b)) (block (continue))))",
		"for { i++; break }":                 "(for (block (pick 1 (step i 1) (block)) (break)))",
		"i = -i":                             "(pick 1 (assign i (unary - (var i))) (block))",
		"c <- i":                             "(pick 1 (send (var c) (var i)) (block))",
		"none()":                             "(pick 1 (expr (call none)) (block))",
		"<-c":                                "(pick 1 (expr (recv (var c))) (block))",
		"go none()":                          "(pick 1 (go (call none)) (block) (expr (call none)))",
		"defer one(i)":                       "(pick 1 (defer (call one (var i))) (block))",
		"close(c)":                           "(pick 1 (close (var c)) (block))",
		"print(b)":                           "(pick 1 (print (var b)) (block))",
		"x := make(chan int)":                "(define x (pick 1 (make) (make (int 1))))",
		"x := make(chan int, i)":             "(define x (pick 1 (make (var i)) (make)))",
		"select { case <-c: default: }":      "(pick 1 (select (case 1 (var c) (block)) (case (block))) (select (case (block))) (select (case 1 (var c) (block))))",
		"select { case x := <-c: panic(x) }": "(pick 1 (select (case x 1 (var c) (block (panic (var x))))) (select))",
	} {
		wantWovenBody(t, body, want)
	}
}

// The numbers of what is within a node come behind its own, and what its mutants make of it is not woven.
func TestMutantsWithinNodesWithMutants(t *testing.T) {
	for body, want := range map[string]string{
		"print(0)":                       "(pick 1 (print (pick 2 (int) (int 1))) (block))",
		"x := make(chan int, 1)":         "(define x (pick 1 (make (pick 2 (int 1) (int 2) (int))) (make)))",
		"x := true == false":             "(define x (pick 1 (binary == (pick 2 (bool 1) (bool)) (pick 3 (bool) (bool 1))) (binary != (bool 1) (bool))))",
		"if b {} else if b {}":           "(pick 1 (if (var b) (block) (pick 2 (if (var b) (block)) (if (unary ! (var b)) (block)))) (if (unary ! (var b)) (block) (if (var b) (block))))",
		"go one(0)":                      "(pick 1 (go (call one (pick 3 (int) (int 1)))) (block) (expr (call one (int))))",
		"i = one(2); print(i)":           "(pick 1 (assign i (call one (pick 2 (int 2) (int 3) (int)))) (block)) (pick 4 (print (var i)) (block))",
		"for b { i++; i-- }; close(c)":   "(pick 1 (for (var b) (block (pick 2 (step i 1) (block)) (pick 3 (step i -1) (block)))) (for (unary ! (var b)) (block (step i 1) (step i -1)))) (pick 4 (close (var c)) (block))",
		"{ panic(0) }; x := i; panic(0)": "(block (panic (pick 1 (int) (int 1)))) (define x (var i)) (panic (pick 2 (int) (int 1)))",
		"if true { c <- 0 } else { return }": "(pick 1 (if (pick 3 (bool 1) (bool)) (block (pick 4 (send (var c) (pick 5 (int) (int 1))) (block))) (block (return)))" +
			" (if (unary ! (bool 1)) (block (send (var c) (int))) (block (return))) (if (bool 1) (block (return)) (block (send (var c) (int)))))",
		"select { case c <- 0: i++; case <-c: }": "(pick 1 (select (case 2 (var c) (pick 3 (int) (int 1)) (block (pick 4 (step i 1) (block)))) (case 1 (var c) (block)))" +
			" (select (case 1 (var c) (block))) (select (case 2 (var c) (int) (block (step i 1)))))",
	} {
		wantWovenBody(t, body, want)
	}
}

func TestNumbersGoOnFromFunctionToFunction(t *testing.T) {
	n := treeOf(t, "func f(b bool) bool { return true }\nfunc g() {}\nfunc TestA() { f(false); panic(7) }\nfunc h() int { return 0 }")
	w := woven(t, n)
	want := "(file (func f 2 (param b 2) (block (return (pick 1 (bool 1) (bool))))) (func g (block))" +
		" (func TestA (block (pick 2 (expr (call f (pick 3 (bool) (bool 1)))) (block)) (panic (pick 4 (int 7) (int 8) (int))))) (func h 1 (block (return (pick 6 (int) (int 1))))))"
	if show(w) != want {
		t.Errorf("woven is\n%s, not\n%s", show(w), want)
	}
	wantAllChosen(t, n, w)
}

func TestTreesWithoutMutantsAreWovenAsThemselves(t *testing.T) {
	for _, text := range []string{"", "func f() {}", "func f(i int) int { x := -i; { y := x; x := y }; select {}; for {}; return f(x) }\nfunc TestA() { return }"} {
		n := treeOf(t, text)
		if w := woven(t, n); !alike(w, n) {
			t.Errorf("%q is woven as %s", text, show(w))
		}
		wantAllChosen(t, n, n)
	}
}

func TestAllOfWholeProgramsIsWoven(t *testing.T) {
	for _, text := range []string{wholeText, runText, toMutate("x := make(chan int, 1 + 2); if i < 3 && true { go one(4) } else { x <- 5 }"), fourEnds} {
		n := treeOf(t, text)
		wantAllChosen(t, n, woven(t, n))
	}
}

func wantNotWoven(t *testing.T, n impl.Node, what string, want int) {
	t.Helper()
	if w, code := impl.Weave(n); code != want || !isZeroNode(w) {
		t.Errorf("Weave of %.200s has code %d and a tree of %d nodes, not code %d", what, code, impl.Size(w), want)
	}
}

func TestCodesOfWeave(t *testing.T) {
	codes := map[int]int{}
	for _, n := range callTrees() {
		if code, _ := impl.Check(n); code != impl.OK {
			codes[code]++
			wantNotWoven(t, n, "a tree that does not check", code)
		}
	}
	for _, code := range []int{impl.ErrBad, impl.ErrTwice, impl.ErrName, impl.ErrType, impl.ErrCount, impl.ErrResult, impl.ErrPlace} {
		if codes[code] == 0 {
			t.Errorf("no tree has code %d", code)
		}
	}
	// A woven tree is no right one, if anything is woven in it.
	wantNotWoven(t, woven(t, treeOf(t, "func f() { print(1) }")), "a woven tree", impl.ErrBad)
	wantNotWoven(t, endlessTree(), "a tree without end", impl.ErrBad)
	// Check's code goes ahead of ErrMany.
	wantNotWoven(t, treeOf(t, panics(impl.MaxMutants+1, "break")), "a tree with a fault and too many mutants", impl.ErrPlace)
	wantNotWoven(t, treeOf(t, inFors(20, 250, "return;", 17)+"func f() {}"), "a tree with a fault and too many nodes", impl.ErrTwice)
}

// endlessTree has a list of kids that stands in itself.
func endlessTree() impl.Node {
	kids := []impl.Node{blockOf()}
	kids[0].Kids = kids
	return fileOf(kids...)
}

func TestMaxMutantsWoven(t *testing.T) {
	for mutants := impl.MaxMutants - 2; mutants <= impl.MaxMutants+3; mutants++ {
		n := treeOf(t, panics(mutants, ""))
		if mutants > impl.MaxMutants {
			wantNotWoven(t, n, "a tree with too many mutants", impl.ErrMany)
			continue
		}
		wantAllChosen(t, n, woven(t, n))
	}
	wantNotWoven(t, treeOf(t, "func f() { x := "+strings.Repeat("1 < 1 && ", 80)+"true }"), "a tree with far too many mutants", impl.ErrMany)
}

// inFors has some returns within fors that stand in each other, and some statements behind them.
func inFors(fors, returns int, behind string, count int) string {
	return "func f(b bool) {" + strings.Repeat("for b {", fors) + strings.Repeat("return;", returns) + strings.Repeat("}", fors) + ";" + strings.Repeat(behind, count) + "}\n"
}

// Each for stands in the woven tree once more for each that is around it.
func TestMaxWoven(t *testing.T) {
	const fors, returns = 20, 250
	plain := 4 + 3*fors + returns
	added := fors
	for i := range fors {
		added += 3*(i+1) + returns + 1
	}
	for behind := impl.MaxWoven - plain - added - 2; behind <= impl.MaxWoven-plain-added+2; behind++ {
		n := treeOf(t, inFors(fors, returns, "return;", behind))
		size := plain + added + behind
		if size > impl.MaxWoven {
			wantNotWoven(t, n, "a tree with too many nodes", impl.ErrMany)
			continue
		}
		w := woven(t, n)
		if got := impl.Size(w); got != size {
			t.Errorf("woven are %d nodes, not %d", got, size)
		}
		wantAllChosen(t, n, w)
	}
	// What comes last may be a pick: with what is in it each of these has four nodes, and none() has two.
	for _, last := range []string{"b = b", "none()", "panic(0)"} {
		for size := impl.MaxWoven - 4; size <= impl.MaxWoven+2; size++ {
			behind := strings.Repeat("return;", size-plain-added-4-2) + last
			n := treeOf(t, inFors(fors, returns, behind, 1)+"func none() {}")
			if size > impl.MaxWoven {
				wantNotWoven(t, n, "a tree with too many nodes and "+last, impl.ErrMany)
			} else if got := impl.Size(woven(t, n)); got != size {
				t.Errorf("woven with %s are %d nodes, not %d", last, got, size)
			}
		}
	}
	wantNotWoven(t, treeOf(t, "func f(c chan int) { select { "+strings.Repeat("case <-c: ", 190)+"} }"), "many cases", impl.ErrMany)
}

// wantPicks asks all calls whether a tree is a woven one, and how many numbers it has: below 0 it is none.
func wantPicks(t *testing.T, w impl.Node, what string, want int) {
	t.Helper()
	count, code := impl.Picks(w)
	zero, zeroCode := impl.Choose(w, 0)
	below, belowCode := impl.Choose(w, -1)
	run, runCode := impl.RunWoven(w, 0, "TestNone", nil, 0)
	if !isZeroNode(below) || !sameRun(run, impl.Run{}) {
		t.Errorf("%s: beside a code there is more", what)
	}
	if want < 0 {
		if impl.WovenOK(w) || count != 0 || code != impl.ErrBad || !isZeroNode(zero) || zeroCode != impl.ErrBad || belowCode != impl.ErrBad || runCode != impl.ErrBad {
			t.Errorf("%s is woven: it has %d numbers and the codes %d, %d, %d, %d", what, count, code, zeroCode, belowCode, runCode)
		}
		return
	}
	if !impl.WovenOK(w) || count != want || code != impl.OK || zeroCode != impl.OK || !impl.TreeOK(zero) || belowCode != impl.ErrRange || runCode == impl.OK {
		t.Errorf("%s is not woven, or has %d numbers, not %d: the codes are %d, %d, %d, %d", what, count, want, code, zeroCode, belowCode, runCode)
	}
	if behind, code := impl.Choose(w, want+1); code != impl.ErrRange || !isZeroNode(behind) {
		t.Errorf("%s, chosen behind its last number, has code %d", what, code)
	}
}

// printing is a file that prints such values.
func printing(values ...impl.Node) impl.Node {
	var list []impl.Node
	for _, value := range values {
		list = append(list, node(impl.NdPrint, value))
	}
	return fileOf(list...)
}

func TestPicksThatAreNotWoven(t *testing.T) {
	one, two := whole(1), whole(2)
	wantPicks(t, printing(pickOf(1, one, two)), "a pick", 1)
	for what, w := range map[string]impl.Node{
		"a pick with a Name":                         printing(impl.Node{Kind: impl.NdPick, N: 1, Name: "x", Kids: []impl.Node{one, two}}),
		"a pick with a blank as Name":                printing(impl.Node{Kind: impl.NdPick, N: 1, Name: " ", Kids: []impl.Node{one, two}}),
		"a pick without kids":                        printing(pickOf(1)),
		"a pick without kids, numbered 0":            printing(pickOf(0)),
		"a pick with one kid":                        printing(pickOf(1, one)),
		"a pick with one kid, numbered 0":            printing(pickOf(0, one)),
		"a pick as the first kid":                    printing(pickOf(1, pickOf(2, one, two), two)),
		"a pick as the first kid, numbered ahead":    printing(pickOf(2, pickOf(1, one, two), two)),
		"a pick as the second kid":                   printing(pickOf(1, one, pickOf(2, one, two))),
		"a pick as the last kid":                     printing(pickOf(1, one, two, two, pickOf(4, one, two))),
		"a pick in the second kid":                   printing(pickOf(1, one, signNode("-", pickOf(2, one, two)))),
		"a pick deep in the last kid":                printing(pickOf(1, one, two, callOf("f", one, signNode("-", twoSides("+", one, signNode("-", pickOf(3, one, two))))))),
		"a pick without numbers in the second kid":   printing(pickOf(1, one, signNode("-", pickOf(2, one)))),
		"an empty pick in the second kid":            printing(pickOf(1, one, signNode("-", pickOf(2)))),
		"an empty pick as the second kid":            printing(pickOf(1, one, pickOf(0))),
		"a number that is too small":                 printing(pickOf(0, one, two)),
		"a number that is too great":                 printing(pickOf(2, one, two)),
		"a number below 0":                           printing(pickOf(-1, one, two)),
		"the greatest number":                        printing(pickOf(math.MaxInt, one, two)),
		"the least number":                           printing(pickOf(math.MinInt, one, two)),
		"two picks of one number":                    printing(pickOf(1, one, two), pickOf(1, one, two)),
		"a second number that the first pick has":    printing(pickOf(1, one, two, two), pickOf(2, one, two)),
		"a second number that is too great":          printing(pickOf(1, one, two), pickOf(3, one, two)),
		"numbers by all kids":                        printing(pickOf(1, one, two, two), pickOf(4, one, two)),
		"numbers the other way round":                printing(pickOf(2, one, two), pickOf(1, one, two)),
		"an inner number ahead of the outer one":     printing(pickOf(2, signNode("-", pickOf(1, one, two)), two)),
		"an inner number that the outer one has":     printing(pickOf(1, signNode("-", pickOf(2, one, two)), two, two)),
		"a third number that is too small":           printing(pickOf(1, one, two), pickOf(2, one, two, two), pickOf(3, one, two)),
		"a third number that is too great":           printing(pickOf(1, one, two), pickOf(2, one, two), pickOf(4, one, two)),
		"a pick that is no tree":                     pickOf(1, one, two),
		"a pick as the file, with no file first":     pickOf(1, blockOf(), printing()),
		"no file":                                    blockOf(),
		"nothing":                                    {},
		"a file with a wrong node":                   printing(signNode("+", one)),
		"a wrong node within a pick":                 printing(pickOf(1, signNode("+", one), two)),
		"a wrong number within a pick":               printing(pickOf(1, whole(-1), two)),
		"a wrong name within a pick":                 printing(pickOf(1, variable("if"), two)),
		"a value that is picked as a statement":      fileOf(pickOf(1, one, blockOf())),
		"a statement that is picked as a value":      printing(pickOf(1, blockOf(), one)),
		"a statement that is picked as a function":   node(impl.NdFile, pickOf(1, blockOf(), function("f", 0, blockOf()))),
		"a value that is picked as a call":           fileOf(node(impl.NdGo, pickOf(1, one, callOf("f")))),
		"an if that is picked as a block":            fileOf(node(impl.NdFor, pickOf(1, node(impl.NdIf, one, blockOf()), blockOf()))),
		"a statement that is picked as a case":       fileOf(node(impl.NdSelect, pickOf(1, blockOf(), caseOf(0, "", blockOf())))),
		"a case that is picked as a statement":       fileOf(pickOf(1, caseOf(0, "", blockOf()), blockOf())),
		"a pick in a node that may not have it":      printing(impl.Node{Kind: impl.NdInt, N: 1, Kids: []impl.Node{pickOf(1, one, two)}}),
		"a node of Kind 31":                          printing(numbered(31, 1, one, two)),
		"a pick of nothing":                          printing(pickOf(1, impl.Node{}, two)),
		"a pick as the file around a file with more": pickOf(1, wideTree(598), one),
	} {
		wantPicks(t, w, what, -1)
	}
}

func TestNumbersOfPicks(t *testing.T) {
	one, two := whole(1), whole(2)
	wantPicks(t, printing(), "no pick", 0)
	wantPicks(t, printing(one), "no pick", 0)
	wantPicks(t, treeOf(t, "func f() { break; print(x) }"), "a tree that does not check", 0)
	wantPicks(t, printing(pickOf(1, one, two, two, two)), "one pick", 3)
	wantPicks(t, printing(pickOf(1, one, two), pickOf(2, one, two)), "two picks", 2)
	wantPicks(t, printing(pickOf(1, one, two, two), one, pickOf(3, one, two), pickOf(4, one, two, two)), "three picks", 5)
	wantPicks(t, printing(pickOf(1, signNode("-", pickOf(2, one, two)), two)), "a pick in a pick", 2)
	wantPicks(t, printing(pickOf(1, twoSides("+", pickOf(3, signNode("-", pickOf(4, one, two)), two), pickOf(5, one, two)), two, two), pickOf(6, one, two)), "picks in picks", 6)
}

// anyNodes may stand as other kids of a pick.
func anyNodes() []impl.Node {
	return []impl.Node{
		{}, {Kind: -5, N: math.MinInt, Name: "\xff"}, {Kind: 31, N: math.MaxInt, Name: strings.Repeat("n", impl.MaxText+1)}, {Kind: math.MaxInt}, whole(-1), blockOf(), printing(), node(impl.NdSelect, whole(1), whole(1)),
		plainOf(impl.NdFile), plainOf(impl.NdFunc), plainOf(impl.NdParam), plainOf(impl.NdCase), plainOf(impl.NdBinary), wideTree(2000), deepTree(2000), {Kind: 1 << 40, Kids: []impl.Node{{Kind: -30}, {Kind: 29}}},
	}
}

// pickable has a tree with each Kind of node in each place that it may stand in.
func pickable() []impl.Node {
	block, call := blockOf(node(impl.NdBreak)), callOf("f", whole(1))
	list := []impl.Node{
		node(impl.NdFile, function("f", 1, parameter("a", 1), parameter("b", 3), block), function("TestA", 0, block)),
		fileOf(block, node(impl.NdIf, whole(1), block, node(impl.NdIf, call, block, block)), node(impl.NdFor, block), node(impl.NdFor, whole(1), block)),
		fileOf(node(impl.NdSelect, caseOf(0, "", block), caseOf(1, "x", call, block), caseOf(2, "", whole(1), call, block)), node(impl.NdReturn, whole(1))),
		printing(twoSides("+", whole(1), signNode("-", whole(1))), callOf("f", whole(1), call), node(impl.NdMake, whole(1)), node(impl.NdRecv, whole(1))),
	}
	for kind := impl.NdBlock; kind < impl.NdPick; kind++ {
		list = append(list, around(plainOf(kind)))
	}
	return list
}

func TestAPickInPlaceOfEachNode(t *testing.T) {
	for _, n := range pickable() {
		if !impl.TreeOK(n) {
			t.Fatalf("%s is not right", show(n))
		}
		to, all := trails(n, nil), inOrder(n)
		for at := range all {
			for _, other := range anyNodes() {
				w, _ := put(n, to[at], pickOf(1, all[at], whole(1), other))
				wantPicks(t, w, "a pick of a "+kindWords[all[at].Kind]+" in "+show(n), 2)
				plain, code := impl.Choose(w, 0)
				if code != impl.OK || !alike(plain, n) {
					t.Errorf("chosen by 0 is %s with code %d, not %s", show(plain), code, show(n))
				}
				want, _ := put(n, to[at], other)
				if got, code := impl.Choose(w, 2); code != impl.OK || !alike(got, want) {
					t.Errorf("chosen by 2 node %d of %s is another one, with code %d", at, show(n), code)
				}
				wrong, _ := put(n, to[at], pickOf(1, other, all[at]))
				right, _ := put(n, to[at], other)
				wanted := -1
				if impl.TreeOK(right) {
					wanted = 1
				}
				wantPicks(t, wrong, "a pick of another node in place of a "+kindWords[all[at].Kind], wanted)
			}
		}
	}
}

func TestWovenTreesAtTheirLimits(t *testing.T) {
	many := func(count int) []impl.Node { return slices.Repeat([]impl.Node{whole(2)}, count) }
	picked := func(n, others int) impl.Node { return pickOf(n, slices.Concat(many(1), many(others))...) }
	for _, more := range []int{-1, 0, 1, 2} {
		inBounds := func(numbers int) int {
			if more > 0 {
				return -1
			}
			return numbers
		}
		// The file, its function, the block, the print, the pick and its first kid are six.
		wantPicks(t, printing(pickOf(1, whole(1), blockOf(many(impl.MaxWoven-7+more)...))), "a tree with a wide kid", inBounds(1))
		deep := whole(1)
		for range impl.MaxWoven - 7 + more {
			deep = signNode("-", deep)
		}
		wantPicks(t, printing(pickOf(1, whole(1), deep)), "a tree with a deep kid", inBounds(1))
		wantPicks(t, pickOf(1, printing(whole(1)), wideTree(impl.MaxWoven-9+more)), "a pick as the file", inBounds(1))
		wantPicks(t, printing(picked(1, impl.MaxMutants+more)), "a pick with many kids", inBounds(impl.MaxMutants+more))
		wantPicks(t, printing(picked(1, 150), picked(151, 150), picked(301, 100+more)), "picks with many kids", inBounds(impl.MaxMutants+more))
		wantPicks(t, printing(pickOf(1, slices.Concat([]impl.Node{signNode("-", picked(200, 201+more))}, many(199))...)), "a pick in a pick with many kids", inBounds(impl.MaxMutants+more))
		// Chosen by 0 it must be small, whatever its other kids are.
		small := wideTree(impl.MaxNodes - 3 + more)
		small.Kids[0].Kids[0].Kids[50] = pickOf(1, node(impl.NdBreak), wideTree(impl.MaxNodes))
		wantPicks(t, small, "a tree with many nodes when it is chosen", inBounds(1))
	}
	if impl.MaxWoven != 6000 {
		t.Error("MaxWoven is", impl.MaxWoven)
	}
}

// Every call ends, and none needs more room than there is.
func TestVeryGreatTreesAreNotWoven(t *testing.T) {
	const many = 1000000
	shared := impl.Node{}
	for range 40 {
		shared = impl.Node{Kids: []impl.Node{shared, shared}}
	}
	picks := []impl.Node{pickOf(1, whole(1), whole(2))}
	picks[0].Kids[1].Kids = picks
	firsts := []impl.Node{pickOf(1, whole(1), whole(2))}
	firsts[0].Kids[0].Kids = firsts
	endless := endlessTree().Kids[0]
	for what, w := range map[string]impl.Node{
		"a deep tree": deepTree(many), "a wide tree": wideTree(many), "a tree that grows to the left": leftTree(many), "kids that are twice the same": shared, "a tree without end": endlessTree(),
		"a deep kid": printing(pickOf(1, whole(1), deepTree(many))), "a wide kid": printing(pickOf(1, whole(1), wideTree(many))), "a great kid": printing(pickOf(1, whole(1), shared)), "a kid without end": printing(pickOf(1, whole(1), endless)),
		"a pick within its other kids": printing(picks...), "a pick within its first kid": printing(firsts...), "a great first kid": pickOf(1, shared, whole(1)), "a first kid without end": pickOf(1, endlessTree(), whole(1)),
	} {
		wantPicks(t, w, what, -1)
	}
	// A name that is no name may be very long, and stand often.
	name := strings.Repeat("n", 100<<20)
	var steps []impl.Node
	for i := range 290 {
		steps = append(steps, pickOf(i+1, impl.Node{Kind: impl.NdStep, N: 1, Name: name}, blockOf()))
	}
	wantPicks(t, fileOf(steps...), "picks with a long name", -1)
}

func TestChosenByEachNumber(t *testing.T) {
	call := func(i, j impl.Node) impl.Node { return callOf("f", i, j) }
	inner := pickOf(3, whole(30), whole(31), whole(32))
	last := pickOf(5, whole(50), whole(51))
	w := printing(pickOf(1, call(inner, whole(9)), call(whole(7), whole(8)), whole(6)), last)
	for selector, want := range []impl.Node{
		printing(call(whole(30), whole(9)), whole(50)), printing(call(whole(7), whole(8)), whole(50)), printing(whole(6), whole(50)),
		printing(call(whole(31), whole(9)), whole(50)), printing(call(whole(32), whole(9)), whole(50)), printing(call(whole(30), whole(9)), whole(51)),
	} {
		if got, code := impl.Choose(w, selector); code != impl.OK || !alike(got, want) {
			t.Errorf("chosen by %d is %s with code %d, not %s", selector, show(got), code, show(want))
		}
	}
	wantPicks(t, w, "three picks", 5)
	// The file itself may be picked, and be no file.
	for _, other := range anyNodes() {
		w := pickOf(1, printing(pickOf(2, whole(1), other)), other)
		first, firstCode := impl.Choose(w, 1)
		second, secondCode := impl.Choose(w, 2)
		if firstCode != impl.OK || secondCode != impl.OK || !alike(first, other) || !alike(second, printing(other)) {
			t.Errorf("a picked file has the codes %d and %d, or is another one", firstCode, secondCode)
		}
	}
}

func wantWovenCode(t *testing.T, w impl.Node, selector int, test string, script []int, steps, want int) {
	t.Helper()
	r, code := impl.RunWoven(w, selector, test, script, steps)
	if code != want {
		t.Errorf("RunWoven by %d of %.30q with %d numbers and %d steps has code %d, not %d", selector, test, len(script), steps, code, want)
	}
	if sameRun(r, impl.Run{}) != (code != impl.OK) {
		t.Errorf("RunWoven has %v beside code %d", r, code)
	}
}

// Of what is wrong with a call the first in the order of the document is told.
func TestCodesOfAWovenRunInTheirOrder(t *testing.T) {
	bad, right := printing(pickOf(2, whole(1), whole(2))), woven(t, treeOf(t, inTest("panic(1)")))
	untyped := treeOf(t, "func TestA() { print(x) }")
	wrong := function("TestA", 0, blockOf(node(impl.NdPrint, pickOf(1, whole(1), variable("x"), blockOf(), node(impl.NdBool), node(impl.NdMake)))))
	mixed := node(impl.NdFile, wrong)
	long, longList := strings.Repeat("T", impl.MaxText+1), make([]int, impl.MaxList+1)
	for _, steps := range []int{-1, 0, impl.MaxSteps + 1, 5} {
		for _, script := range [][]int{nil, {-1}, {5, 5, 5, 5, -1}, longList} {
			for _, test := range []string{"TestA", "show", "TestB", "", long} {
				fine := impl.OK
				switch {
				case test != "TestA":
					fine = impl.ErrName
				case steps != 5 || len(script) > 0:
					fine = impl.ErrRange
				}
				isLong := test == long || len(script) > impl.MaxList
				for _, selector := range []int{math.MinInt, -1, 0, 1, 2, 3, 4, 5, math.MaxInt} {
					want := func(w impl.Node, numbers, code int) {
						t.Helper()
						switch {
						case isLong:
							code = impl.ErrLong
						case numbers < 0:
							code = impl.ErrBad
						case selector < 0 || selector > numbers:
							code = impl.ErrRange
						}
						wantWovenCode(t, w, selector, test, script, steps, code)
					}
					want(bad, -1, 0)
					want(impl.Node{}, -1, 0)
					want(untyped, 0, impl.ErrName)
					count, _ := impl.Picks(right)
					want(right, count, fine)
					want(mixed, 4, map[int]int{0: fine, 1: impl.ErrName, 2: impl.ErrBad, 3: fine, 4: impl.ErrType}[selector])
				}
			}
		}
	}
}

// A mutant with more than MaxNodes nodes can be chosen, but not be run.
func TestChosenTreesWithTooManyNodes(t *testing.T) {
	for size := impl.MaxNodes - 1; size <= impl.MaxNodes; size++ {
		n := treeOf(t, "func TestA() { b := true; if b {} }")
		w := woven(t, padded(n, size, blockOf()))
		made, code := impl.Choose(w, 2)
		if code != impl.OK || impl.Size(made) != size+1 {
			t.Errorf("chosen are %d nodes with code %d", impl.Size(made), code)
		}
		want := impl.OK
		if size == impl.MaxNodes {
			want = impl.ErrBad
		}
		wantWovenCode(t, w, 2, "TestA", nil, 50, want)
		wantWovenCode(t, w, 1, "TestA", nil, 50, impl.OK)
	}
}

// Each mutant, chosen and run, does what it does.
func TestWovenRunsAreThoseOfWhatIsChosen(t *testing.T) {
	for _, text := range []string{runText, fourEnds, inTest("c := make(chan int); go put(c, 1); go put(c, 2); if <-c == 1 { print(3) } else { panic(<-c) }")} {
		n := treeOf(t, text)
		w := woven(t, n)
		list, _ := impl.Mutants(n)
		runs := map[string]bool{}
		for selector := range len(list) + 1 {
			tree := n
			if selector > 0 {
				tree, _ = impl.Mutate(n, list[selector-1])
			}
			for _, script := range [][]int{nil, {1}, {0, 1, 0, 1, 0, 1}, {3, 1, 4, 1, 5, 9, 2, 6, 5, 3, 5, 8, 9, 7, 9}} {
				for _, steps := range []int{1, 7, 200, impl.MaxSteps} {
					got, code := impl.RunWoven(w, selector, "TestA", script, steps)
					want, wantCode := impl.RunTest(tree, "TestA", script, steps)
					if code != impl.OK || wantCode != impl.OK || !sameRun(got, want) {
						t.Fatalf("%s\nchosen by %d and run by %v and %d steps is %v with code %d, not %v", text, selector, script, steps, got, code, want)
					}
					runs[fmt.Sprint(got)] = true
				}
			}
		}
		if len(runs) < 8 {
			t.Errorf("the mutants of %s\nhave only %d runs", text, len(runs))
		}
	}
}
