package tests

import (
	"math"
	"slices"
	"strconv"
	"strings"
	"testing"

	"loop.example/g00135/impl"
)

// toMutate is the text of a function with a variable of each type, and of others that it may call and that have no mutants.
func toMutate(body string) string {
	return "func f(i int, b bool, c chan int) {\n" + body + "\n}\n" + `
func none() {}
func take(a int, b bool, c chan int) {}
func one(a int) int { return a }
func yes(b bool) bool { return b }
func pipe(c chan int) chan int { return c }
`
}

// A mutation is a mutant of the nth node of a Kind, and the body that it makes.
type mutation struct {
	kind, of, nth, alt int
	body               string
}

// wantMutations asks for all mutants of a body, and for what they make of it.
func wantMutations(t *testing.T, body string, want ...mutation) {
	t.Helper()
	n := treeOf(t, toMutate(body))
	var list []impl.Mutant
	for _, m := range want {
		list = append(list, impl.Mutant{Kind: m.kind, Node: placeOf(t, n, m.of, m.nth), Alt: m.alt})
	}
	if got, code := impl.Mutants(n); code != impl.OK || !slices.Equal(got, list) {
		t.Errorf("the mutants of %q are %v with code %d, not %v", body, got, code, list)
	}
	for i, m := range list {
		got, code := impl.Mutate(n, m)
		if made := show(treeOf(t, toMutate(want[i].body))); code != impl.OK || show(got) != made {
			text, _ := impl.Print(got)
			t.Errorf("%v makes of %q with code %d\n%s\nnot %q", m, body, code, text, want[i].body)
		}
	}
}

// otherSigns are the mutants of the nth NdBinary by other signs of its class; body has a $ where its sign stands.
func otherSigns(nth int, class, own, body string) []mutation {
	var list []mutation
	for alt, sign := range strings.Fields(class) {
		if sign != own {
			list = append(list, mutation{impl.MuOp, impl.NdBinary, nth, alt, strings.Replace(body, "$", sign, 1)})
		}
	}
	return list
}

const (
	sumSigns     = "+ - * / %"
	orderSigns   = "< <= > >= == !="
	equalSigns   = "== !="
	logicalSigns = "&& ||"
)

func TestEachSignHasTheOthersOfItsClass(t *testing.T) {
	ints, bools, channels := []string{"i", "-i", "<-c", "one(i)"}, []string{"b", "!b", "yes(b)"}, []string{"c", "pipe(c)"}
	for _, c := range []struct {
		class string
		sides []string
	}{{sumSigns, ints}, {orderSigns, ints}, {equalSigns, bools}, {equalSigns, channels}, {logicalSigns, bools}} {
		for _, sign := range strings.Fields(c.class) {
			for _, left := range c.sides {
				for _, right := range c.sides {
					body := "x := " + left + " $ " + right
					wantMutations(t, strings.Replace(body, "$", sign, 1), otherSigns(1, c.class, sign, body)...)
				}
			}
		}
	}
}

// The type of what is compared counts, not that of the outermost sign beside or above it.
func TestSignsWithinSides(t *testing.T) {
	for _, c := range []struct {
		body string
		want [][]mutation
	}{
		{"x := i + i == i", [][]mutation{otherSigns(1, orderSigns, "==", "x := i + i $ i"), otherSigns(2, sumSigns, "+", "x := i $ i == i")}},
		{"x := i != i * i", [][]mutation{otherSigns(1, orderSigns, "!=", "x := i $ i * i"), otherSigns(2, sumSigns, "*", "x := i != (i $ i)")}},
		{"x := (i < i) == b", [][]mutation{otherSigns(1, equalSigns, "==", "x := (i < i) $ b"), otherSigns(2, orderSigns, "<", "x := (i $ i) == b")}},
		{"x := b != (i == i)", [][]mutation{otherSigns(1, equalSigns, "!=", "x := b $ (i == i)"), otherSigns(2, orderSigns, "==", "x := b != (i $ i)")}},
		{"x := (b == b) == (c != c)", [][]mutation{otherSigns(1, equalSigns, "==", "x := (b == b) $ (c != c)"), otherSigns(2, equalSigns, "==", "x := (b $ b) == (c != c)"), otherSigns(3, equalSigns, "!=", "x := (b == b) == (c $ c)")}},
		{"x := i == i && b || c == c", [][]mutation{otherSigns(1, logicalSigns, "||", "x := (i == i && b) $ c == c"), otherSigns(2, logicalSigns, "&&", "x := (i == i $ b) || c == c"), otherSigns(3, orderSigns, "==", "x := i $ i && b || c == c"), otherSigns(4, equalSigns, "==", "x := i == i && b || c $ c")}},
		{"x := i % (i - i)", [][]mutation{otherSigns(1, sumSigns, "%", "x := i $ (i - i)"), otherSigns(2, sumSigns, "-", "x := i % (i $ i)")}},
		{"x := -(i / i)", [][]mutation{otherSigns(1, sumSigns, "/", "x := -(i $ i)")}},
		{"x := !(i >= i)", [][]mutation{otherSigns(1, orderSigns, ">=", "x := !(i $ i)")}},
	} {
		wantMutations(t, c.body, slices.Concat(c.want...)...)
	}
	// No class holds signs whose types are others, or what is of one side.
	wantMutations(t, "x := -i; y := !b; z := <-c; take(x, y, c)", mutation{impl.MuDrop, impl.NdExpr, 1, 0, "x := -i; y := !b; z := <-c; {}"})
}

func TestConditionsAreNegated(t *testing.T) {
	wantMutations(t, "if b {}", mutation{impl.MuNot, impl.NdIf, 1, 0, "if !b {}"})
	wantMutations(t, "if !b {}", mutation{impl.MuNot, impl.NdIf, 1, 0, "if !!b {}"})
	wantMutations(t, "if b {} else {}", mutation{impl.MuNot, impl.NdIf, 1, 0, "if !b {} else {}"})
	wantMutations(t, "if b {} else if yes(b) {}", mutation{impl.MuNot, impl.NdIf, 1, 0, "if !b {} else if yes(b) {}"}, mutation{impl.MuNot, impl.NdIf, 2, 0, "if b {} else if !yes(b) {}"})
	wantMutations(t, "if b || b { return }", mutation{impl.MuNot, impl.NdIf, 1, 0, "if !(b || b) { return }"}, mutation{impl.MuOp, impl.NdBinary, 1, 0, "if b && b { return }"})
	wantMutations(t, "for b { continue }", mutation{impl.MuNot, impl.NdFor, 1, 0, "for !b { continue }"})
	wantMutations(t, "for c == c {}", mutation{impl.MuNot, impl.NdFor, 1, 0, "for !(c == c) {}"}, mutation{impl.MuOp, impl.NdBinary, 1, 1, "for c != c {}"})
	wantMutations(t, "for { for b { for {} } }", mutation{impl.MuNot, impl.NdFor, 2, 0, "for { for !b { for {} } }"})
	wantMutations(t, "for {}")
	wantMutations(t, "for { break }")
}

func TestNumbersAndTruths(t *testing.T) {
	wantMutations(t, "x := 0", mutation{impl.MuInt, impl.NdInt, 1, 0, "x := 1"})
	wantMutations(t, "x := 1", mutation{impl.MuInt, impl.NdInt, 1, 0, "x := 2"}, mutation{impl.MuInt, impl.NdInt, 1, 1, "x := 0"})
	wantMutations(t, "x := -9", mutation{impl.MuInt, impl.NdInt, 1, 0, "x := -10"}, mutation{impl.MuInt, impl.NdInt, 1, 1, "x := -0"})
	wantMutations(t, "x := 999999999999999998", mutation{impl.MuInt, impl.NdInt, 1, 0, "x := 999999999999999999"}, mutation{impl.MuInt, impl.NdInt, 1, 1, "x := 0"})
	wantMutations(t, "x := 999999999999999999", mutation{impl.MuInt, impl.NdInt, 1, 1, "x := 0"})
	wantMutations(t, "panic(3)", mutation{impl.MuInt, impl.NdInt, 1, 0, "panic(4)"}, mutation{impl.MuInt, impl.NdInt, 1, 1, "panic(0)"})
	wantMutations(t, "x := true", mutation{impl.MuBool, impl.NdBool, 1, 0, "x := false"})
	wantMutations(t, "x := false", mutation{impl.MuBool, impl.NdBool, 1, 0, "x := true"})
	wantMutations(t, "x := !true", mutation{impl.MuBool, impl.NdBool, 1, 0, "x := !false"})
}

func TestStatementsThatAreDropped(t *testing.T) {
	for body, kind := range map[string]int{
		"i = -i": impl.NdAssign, "i++": impl.NdStep, "i--": impl.NdStep, "c <- i": impl.NdSend, "none()": impl.NdExpr, "take(i, b, c)": impl.NdExpr, "one(i)": impl.NdExpr, "<-c": impl.NdExpr,
		"defer take(i, b, c)": impl.NdDefer, "defer one(i)": impl.NdDefer, "close(c)": impl.NdClose, "print(i)": impl.NdPrint, "print(b)": impl.NdPrint,
	} {
		wantMutations(t, body, mutation{impl.MuDrop, kind, 1, 0, "{}"})
		wantMutations(t, "{ x := i; "+body+"; return }", mutation{impl.MuDrop, kind, 1, 0, "{ x := i; {}; return }"})
	}
	for _, body := range []string{"", "x := i", "{}", "{ { return } }", "return", "select {}", "for { break }", "for { continue }", "for {}", "panic(i)"} {
		wantMutations(t, body)
	}
}

func TestBlocksThatAreExchanged(t *testing.T) {
	not := func(body string) mutation { return mutation{impl.MuNot, impl.NdIf, 1, 0, body} }
	swap := func(body string) mutation { return mutation{impl.MuSwap, impl.NdIf, 1, 0, body} }
	for _, c := range [][2]string{
		{"{}", "{ return }"}, {"{ return }", "{}"}, {"{ return }", "{ return; return }"}, {"{ {} }", "{ { {} } }"}, {"{ panic(i) }", "{ return }"},
		{"{ panic(i) }", "{ panic(-i) }"}, {"{ x := i }", "{ y := i }"}, {"{ x := b }", "{ x := !b }"}, {"{ x := i; panic(x) }", "{ x := one(i); panic(x) }"},
	} {
		wantMutations(t, "if b "+c[0]+" else "+c[1], not("if !b "+c[0]+" else "+c[1]), swap("if b "+c[1]+" else "+c[0]))
	}
	for _, block := range []string{"{}", "{ return }", "{ x := i; { y := x; panic(y) } }"} {
		wantMutations(t, "if b "+block+" else "+block, not("if !b "+block+" else "+block))
		wantMutations(t, "if b "+block, not("if !b "+block))
	}
	wantMutations(t, "if b { return } else if b {}", not("if !b { return } else if b {}"), mutation{impl.MuNot, impl.NdIf, 2, 0, "if b { return } else if !b {}"})
	wantMutations(t, "if b {} else if b { return } else { panic(i) }", not("if !b {} else if b { return } else { panic(i) }"),
		mutation{impl.MuNot, impl.NdIf, 2, 0, "if b {} else if !b { return } else { panic(i) }"}, mutation{impl.MuSwap, impl.NdIf, 2, 0, "if b {} else if b { panic(i) } else { return }"})
	// Blocks that differ in one number alone, far inside.
	wantMutations(t, "if b { { i++ } } else { { i-- } }", not("if !b { { i++ } } else { { i-- } }"), swap("if b { { i-- } } else { { i++ } }"),
		mutation{impl.MuDrop, impl.NdStep, 1, 0, "if b { { {} } } else { { i-- } }"}, mutation{impl.MuDrop, impl.NdStep, 2, 0, "if b { { i++ } } else { { {} } }"})
}

func TestRoomOfChannelsIsChanged(t *testing.T) {
	wantMutations(t, "x := make(chan int)", mutation{impl.MuCap, impl.NdMake, 1, 0, "x := make(chan int, 1)"})
	wantMutations(t, "x := make(chan int, i)", mutation{impl.MuCap, impl.NdMake, 1, 0, "x := make(chan int)"})
	wantMutations(t, "x := make(chan int, one(-i))", mutation{impl.MuCap, impl.NdMake, 1, 0, "x := make(chan int)"})
	wantMutations(t, "x := make(chan int, 0)", mutation{impl.MuCap, impl.NdMake, 1, 0, "x := make(chan int)"}, mutation{impl.MuInt, impl.NdInt, 1, 0, "x := make(chan int, 1)"})
	wantMutations(t, "x := make(chan int, 1)", mutation{impl.MuCap, impl.NdMake, 1, 0, "x := make(chan int)"},
		mutation{impl.MuInt, impl.NdInt, 1, 0, "x := make(chan int, 2)"}, mutation{impl.MuInt, impl.NdInt, 1, 1, "x := make(chan int, 0)"})
}

func TestGoesBecomeCalls(t *testing.T) {
	for _, call := range []string{"none()", "one(i)", "take(-i, !b, pipe(c))"} {
		wantMutations(t, "go "+call, mutation{impl.MuDrop, impl.NdGo, 1, 0, "{}"}, mutation{impl.MuGo, impl.NdGo, 1, 0, call})
	}
	wantMutations(t, "go one(5)", mutation{impl.MuDrop, impl.NdGo, 1, 0, "{}"}, mutation{impl.MuGo, impl.NdGo, 1, 0, "one(5)"},
		mutation{impl.MuInt, impl.NdInt, 1, 0, "go one(6)"}, mutation{impl.MuInt, impl.NdInt, 1, 1, "go one(0)"})
}

func TestCasesAreLeftOut(t *testing.T) {
	without := func(alt int, body string) mutation {
		return mutation{impl.MuCase, impl.NdSelect, 1, alt, body}
	}
	wantMutations(t, "select {}")
	wantMutations(t, "select { default: }", without(0, "select {}"))
	wantMutations(t, "select { case <-c: return }", without(0, "select {}"))
	wantMutations(t, "select { case x := <-c: panic(x) case c <- i: x := i }", without(0, "select { case c <- i: x := i }"), without(1, "select { case x := <-c: panic(x) }"))
	wantMutations(t, "select { case <-c: case <-c: }", without(0, "select { case <-c: }"), without(1, "select { case <-c: }"))
	wantMutations(t, "select { case c <- i: default: return; case x := <-c: case <-pipe(c): }",
		without(0, "select { default: return; case x := <-c: case <-pipe(c): }"), without(1, "select { case c <- i: case x := <-c: case <-pipe(c): }"),
		without(2, "select { case c <- i: default: return; case <-pipe(c): }"), without(3, "select { case c <- i: default: return; case x := <-c: }"))
	wantMutations(t, "select { case c <- 0: select { default: } }", without(0, "select {}"),
		mutation{impl.MuInt, impl.NdInt, 1, 0, "select { case c <- 1: select { default: } }"}, mutation{impl.MuCase, impl.NdSelect, 2, 0, "select { case c <- 0: select {} }"})
}

// As many cases as a tree has room for: their places rise as numbers do, not as texts.
func TestManyCases(t *testing.T) {
	n := treeOf(t, "func f(c chan int) { select { "+strings.Repeat("case <-c: ", 190)+"} }")
	list, code := impl.Mutants(n)
	if code != impl.OK || len(list) != 190 {
		t.Fatalf("%d mutants with code %d", len(list), code)
	}
	for alt, m := range list {
		if m != (impl.Mutant{Kind: impl.MuCase, Node: 4, Alt: alt}) {
			t.Errorf("the mutant at %d is %v", alt, m)
		}
	}
}

func TestMutantsOfOtherFunctions(t *testing.T) {
	if list, code := impl.Mutants(node(impl.NdFile)); code != impl.OK || len(list) != 0 {
		t.Errorf("an empty file has the mutants %v and code %d", list, code)
	}
	n := treeOf(t, "func f(b bool) bool { return true }\nfunc g() {}\nfunc TestA() { f(false) }")
	want := []impl.Mutant{{Kind: impl.MuBool, Node: 5}, {Kind: impl.MuDrop, Node: 10}, {Kind: impl.MuBool, Node: 12}}
	if list, code := impl.Mutants(n); code != impl.OK || !slices.Equal(list, want) {
		t.Errorf("the mutants are %v with code %d, not %v", list, code, want)
	}
	for i, text := range []string{"func f(b bool) bool { return false }\nfunc g() {}\nfunc TestA() { f(false) }", "func f(b bool) bool { return true }\nfunc g() {}\nfunc TestA() { {} }", "func f(b bool) bool { return true }\nfunc g() {}\nfunc TestA() { f(true) }"} {
		if made, code := impl.Mutate(n, want[i]); code != impl.OK || show(made) != show(treeOf(t, text)) {
			t.Errorf("%v makes %s with code %d", want[i], show(made), code)
		}
	}
}

func isZeroNode(n impl.Node) bool {
	return n.Kind == 0 && n.N == 0 && n.Name == "" && len(n.Kids) == 0
}

// wantNoMutants asks both calls for a code, whatever the mutant is.
func wantNoMutants(t *testing.T, n impl.Node, what string, want int) {
	t.Helper()
	if list, code := impl.Mutants(n); code != want || len(list) != 0 {
		t.Errorf("%.200s has %d mutants and code %d, not %d", what, len(list), code, want)
	}
	for _, m := range []impl.Mutant{{}, {Kind: impl.MuDrop, Node: 3}, {Kind: impl.MuInt, Node: 5, Alt: 1}, {Kind: -1, Node: -1, Alt: -1}, {Kind: 10, Node: math.MaxInt, Alt: math.MinInt}} {
		if made, code := impl.Mutate(n, m); code != want || !isZeroNode(made) {
			t.Errorf("%v of %.200s has code %d and %.200s, not code %d", m, what, code, show(made), want)
		}
	}
}

func TestTreesThatDoNotCheckHaveNoMutants(t *testing.T) {
	for text, code := range map[string]int{
		"func f() {}\nfunc f() { print(1) }": impl.ErrTwice, "func f() { print(1 + x) }": impl.ErrName, "func f() { print(1 + true) }": impl.ErrType, "func f() { f(1) }": impl.ErrCount,
		"func f() int { print(1 + 2) }": impl.ErrResult, "func f() { break; print(1) }": impl.ErrPlace, "func f() { print(1); return 1 }": impl.ErrResult, "func f() { print(1 == f()) }": impl.ErrResult,
	} {
		wantNoMutants(t, treeOf(t, text), text, code)
	}
	for _, n := range []impl.Node{{}, node(impl.NdBlock), node(impl.NdPrint, whole(1)), fileOf(node(impl.NdPrint, whole(-1))), fileOf(node(impl.NdPick, whole(1), whole(2))), wideTree(598), deepTree(5000), fileOf(node(impl.NdSelect, node(impl.NdSelect))), around(named(impl.NdBinary, "&", whole(1), whole(2)))} {
		wantNoMutants(t, n, show(n), impl.ErrBad)
	}
	endless := node(impl.NdFile, named(impl.NdFunc, "f", blockOf(blockOf())))
	body := &endless.Kids[0].Kids[0]
	body.Kids[0].Kids = body.Kids
	if list, code := impl.Mutants(endless); code != impl.ErrBad || len(list) != 0 {
		t.Errorf("a tree without end has %d mutants and code %d", len(list), code)
	}
}

// panics is a function's text with so many mutants: two of each number that is not 0.
func panics(mutants int, behind string) string {
	return "func f() {" + strings.Repeat("panic(2);", mutants/2) + strings.Repeat("panic(0);", mutants%2) + behind + "}"
}

func TestMaxMutants(t *testing.T) {
	for mutants := impl.MaxMutants - 1; mutants <= impl.MaxMutants+2; mutants++ {
		n := treeOf(t, panics(mutants, ""))
		list, code := impl.Mutants(n)
		if want := mutants <= impl.MaxMutants; want && (code != impl.OK || len(list) != mutants) || !want && (code != impl.ErrMany || len(list) != 0) {
			t.Errorf("of %d mutants there are %d with code %d", mutants, len(list), code)
		}
		// Each of them is one, however many there are.
		last := impl.Mutant{Kind: impl.MuInt, Node: 2 + 2*((mutants+1)/2)}
		made, code := impl.Mutate(n, last)
		number, _ := impl.NodeAt(made, last.Node)
		if code != impl.OK || number.N != 3-2*(mutants%2) {
			t.Errorf("the last number of %d mutants is made %d with code %d", mutants, number.N, code)
		}
	}
	wantNoMutants(t, treeOf(t, panics(impl.MaxMutants+1, "break")), "a tree with a fault and too many mutants", impl.ErrPlace)
	if list, code := impl.Mutants(treeOf(t, "func f() { x := "+strings.Repeat("1 < 1 && ", 80)+"true }")); code != impl.ErrMany || len(list) != 0 {
		t.Errorf("%d mutants of many signs with code %d", len(list), code)
	}
}

// wantOnly asks Mutate for all mutants with numbers in and about their bounds: those of the list are made, and no others.
func wantOnly(t *testing.T, text string) {
	t.Helper()
	n := treeOf(t, text)
	list, code := impl.Mutants(n)
	if code != impl.OK || len(list) == 0 {
		t.Fatalf("%s\nhas %d mutants and code %d", text, len(list), code)
	}
	edges := []int{math.MinInt, -2, -1, 10, 1 << 32, math.MaxInt}
	kinds := slices.Concat(edges, places(impl.MuCase+1))
	alts := slices.Concat(edges, places(8))
	for _, at := range slices.Concat(edges[:3], places(impl.Size(n)+2), edges[4:]) {
		for _, kind := range kinds {
			for _, alt := range alts {
				m := impl.Mutant{Kind: kind, Node: at, Alt: alt}
				made, code := impl.Mutate(n, m)
				if there := slices.Contains(list, m); there && code != impl.OK || !there && (code != impl.ErrNone || !isZeroNode(made)) {
					t.Errorf("%v of\n%s\nhas code %d and %s", m, text, code, show(made))
				}
			}
		}
	}
}

func TestMutateOfWhatIsNoMutant(t *testing.T) {
	wantOnly(t, "func f() { x := 1 == 0; go f(); if x { f() } else { x = true } }")
	wantOnly(t, "func f(c chan int) { for c == make(chan int) { select { case <-c: case c <- 9: default: } } }")
	wantOnly(t, "func f(c chan int) { c = make(chan int, 999999999999999999); if true || false {} else {} }")
	n := treeOf(t, "func f(c chan int, b bool) {}")
	for at := range impl.Size(n) {
		for kind := range impl.MuCase + 2 {
			if made, code := impl.Mutate(n, impl.Mutant{Kind: kind, Node: at}); code != impl.ErrNone || !isZeroNode(made) {
				t.Errorf("a mutant of Kind %d of node %d is there with code %d", kind, at, code)
			}
		}
	}
}

// A mutant may have one node more than a tree that is right.
func TestMutantsWithTooManyNodes(t *testing.T) {
	for _, c := range []struct {
		statement string
		kind      int
	}{{"if b {}", impl.MuNot}, {"for b {}", impl.MuNot}, {"x := make(chan int)", impl.MuCap}} {
		for _, size := range []int{impl.MaxNodes - 1, impl.MaxNodes} {
			n := treeOf(t, "func f(b bool) { "+c.statement+"}")
			body := &n.Kids[0].Kids[1]
			body.Kids = append(body.Kids, slices.Repeat([]impl.Node{node(impl.NdReturn)}, size-impl.Size(n))...)
			list, code := impl.Mutants(n)
			if code != impl.OK || len(list) != 1 || list[0].Kind != c.kind {
				t.Fatalf("%s has the mutants %v and code %d", c.statement, list, code)
			}
			made, code := impl.Mutate(n, list[0])
			if code != impl.OK || impl.Size(made) != size+1 || impl.TreeOK(made) != (size < impl.MaxNodes) {
				t.Errorf("%v of %s has code %d and %d nodes", list[0], c.statement, code, impl.Size(made))
			}
			want := impl.OK
			if size == impl.MaxNodes {
				want = impl.ErrBad
			}
			for name, code := range codesOf(n, made) {
				if code != want {
					t.Errorf("%s of a mutant of %d nodes has code %d, not %d", name, size+1, code, want)
				}
			}
		}
	}
}

// codesOf are those of the calls that ask whether a mutant is right.
func codesOf(n, mutant impl.Node) map[string]int {
	codes := map[string]int{}
	_, codes["Print"] = impl.Print(mutant)
	codes["Check"], _ = impl.Check(mutant)
	_, codes["Mutants"] = impl.Mutants(mutant)
	_, codes["Differ"] = impl.Differ(n, mutant)
	_, codes["Differ the other way round"] = impl.Differ(mutant, n)
	_, codes["NodeAt"] = impl.NodeAt(mutant, 0)
	return codes
}

func TestConstantsOfMutants(t *testing.T) {
	kinds := []int{impl.MuOp, impl.MuNot, impl.MuInt, impl.MuBool, impl.MuDrop, impl.MuSwap, impl.MuCap, impl.MuGo, impl.MuCase}
	for i, kind := range kinds {
		if kind != i+1 {
			t.Error("the Kind at " + strconv.Itoa(i) + " is " + strconv.Itoa(kind))
		}
	}
	if impl.MaxMutants != 400 {
		t.Error("MaxMutants is", impl.MaxMutants)
	}
}
