package tests

import (
	"math"
	"slices"
	"strings"
	"testing"

	"loop.example/g00135/impl"
)

// wantText asks for the text of a tree, and that it is parsed again as that tree.
func wantText(t *testing.T, n impl.Node, want string) {
	t.Helper()
	text, code := impl.Print(n)
	if code != impl.OK || text != want {
		t.Errorf("Print(%.500s) = %d, %.500q; not %.500q", show(n), code, text, want)
		return
	}
	wantAgain(t, n, text)
}

// wantLines asks for the lines of statements that stand in a function.
func wantLines(t *testing.T, statements []impl.Node, lines ...string) {
	t.Helper()
	want := "func f() {\n"
	for _, line := range lines {
		want += "\t" + line + "\n"
	}
	wantText(t, fileOf(statements...), want+"}\n")
}

func wantLine(t *testing.T, statement impl.Node, line string) {
	t.Helper()
	wantLines(t, []impl.Node{statement}, line)
}

// wantBad asks for no text.
func wantBad(t *testing.T, n impl.Node, what string) {
	t.Helper()
	if text, code := impl.Print(n); code != impl.ErrBad || text != "" {
		t.Errorf("Print of %s = %d, %.100q; not %d and no text", what, code, text, impl.ErrBad)
	}
}

func variable(name string) impl.Node { return named(impl.NdVar, name) }

func whole(n int) impl.Node { return numbered(impl.NdInt, n) }

func callOf(name string, arguments ...impl.Node) impl.Node {
	return named(impl.NdCall, name, arguments...)
}

func blockOf(statements ...impl.Node) impl.Node { return node(impl.NdBlock, statements...) }

func parameter(name string, kind int) impl.Node {
	return impl.Node{Kind: impl.NdParam, N: kind, Name: name}
}

func function(name string, result int, kids ...impl.Node) impl.Node {
	return impl.Node{Kind: impl.NdFunc, N: result, Name: name, Kids: kids}
}

func TestTextOfFunctions(t *testing.T) {
	a, b, c := parameter("a", impl.TyInt), parameter("b", impl.TyBool), parameter("c", impl.TyChan)
	wantText(t, impl.Node{Kind: impl.NdFile}, "")
	wantText(t, impl.Node{Kind: impl.NdFile, Kids: []impl.Node{}}, "")
	for _, d := range []struct {
		function impl.Node
		text     string
	}{
		{function("f", impl.TyNone, blockOf()), "func f() {\n}\n"},
		{function("f", impl.TyInt, blockOf()), "func f() int {\n}\n"},
		{function("f", impl.TyBool, blockOf()), "func f() bool {\n}\n"},
		{function("f", impl.TyChan, blockOf()), "func f() chan int {\n}\n"},
		{function("_", impl.TyNone, a, blockOf()), "func _(a int) {\n}\n"},
		{function("F9", impl.TyNone, b, blockOf()), "func F9(b bool) {\n}\n"},
		{function("iff", impl.TyNone, c, blockOf()), "func iff(c chan int) {\n}\n"},
		{function("f", impl.TyInt, a, blockOf()), "func f(a int) int {\n}\n"},
		{function("f", impl.TyBool, a, b, blockOf()), "func f(a int, b bool) bool {\n}\n"},
		{function("f", impl.TyChan, c, a, c, blockOf(node(impl.NdBreak))), "func f(c chan int, a int, c chan int) chan int {\n\tbreak\n}\n"},
		{function(strings.Repeat("n", impl.MaxName), impl.TyNone, blockOf()), "func " + strings.Repeat("n", impl.MaxName) + "() {\n}\n"},
	} {
		wantText(t, node(impl.NdFile, d.function), d.text)
		wantText(t, node(impl.NdFile, d.function, d.function), d.text+"\n"+d.text)
		wantText(t, node(impl.NdFile, plainOf(impl.NdFunc), d.function, plainOf(impl.NdFunc)), "func f() {\n}\n\n"+d.text+"\nfunc f() {\n}\n")
	}
}

func TestTextOfStatements(t *testing.T) {
	a, b, c := variable("a"), variable("b"), variable("c")
	for _, d := range []struct {
		statement impl.Node
		line      string
	}{
		{named(impl.NdDefine, "a", b), "a := b"}, {named(impl.NdAssign, "a", b), "a = b"},
		{named(impl.NdDefine, "a", node(impl.NdRecv, c)), "a := <-c"}, {named(impl.NdAssign, "a", node(impl.NdRecv, c)), "a = <-c"},
		{impl.Node{Kind: impl.NdStep, N: 1, Name: "a"}, "a++"}, {impl.Node{Kind: impl.NdStep, N: -1, Name: "a"}, "a--"},
		{node(impl.NdSend, c, a), "c <- a"}, {node(impl.NdSend, c, node(impl.NdRecv, c)), "c <- <-c"},
		{node(impl.NdSend, node(impl.NdRecv, c), a), "<-c <- a"}, {node(impl.NdSend, callOf("f"), whole(1)), "f() <- 1"},
		{node(impl.NdSend, node(impl.NdMake), whole(1)), "make(chan int) <- 1"}, {node(impl.NdSend, numbered(impl.NdBool, 1), numbered(impl.NdBool, 0)), "true <- false"},
		{node(impl.NdExpr, callOf("f")), "f()"}, {node(impl.NdExpr, node(impl.NdRecv, c)), "<-c"},
		{node(impl.NdReturn), "return"}, {node(impl.NdReturn, a), "return a"},
		{node(impl.NdGo, callOf("f")), "go f()"}, {node(impl.NdDefer, callOf("f", a)), "defer f(a)"},
		{node(impl.NdBreak), "break"}, {node(impl.NdContinue), "continue"},
		{node(impl.NdClose, c), "close(c)"}, {node(impl.NdPrint, a), "print(a)"}, {node(impl.NdPanic, whole(5)), "panic(5)"},
	} {
		wantLine(t, d.statement, d.line)
		wantLines(t, []impl.Node{d.statement, d.statement}, d.line, d.line)
		wantLine(t, blockOf(d.statement), "{\n\t\t"+d.line+"\n\t}")
		wantLine(t, node(impl.NdIf, a, blockOf(d.statement), blockOf(d.statement)), "if a {\n\t\t"+d.line+"\n\t} else {\n\t\t"+d.line+"\n\t}")
		wantLine(t, node(impl.NdFor, blockOf(d.statement)), "for {\n\t\t"+d.line+"\n\t}")
		wantLine(t, node(impl.NdSelect, node(impl.NdCase, blockOf(d.statement)), node(impl.NdCase, blockOf(d.statement))), "select {\n\tdefault:\n\t\t"+d.line+"\n\tdefault:\n\t\t"+d.line+"\n\t}")
	}
	wantLines(t, nil)
}

func TestTextOfBlocks(t *testing.T) {
	a, b, leave := variable("a"), variable("b"), node(impl.NdBreak)
	empty, full := blockOf(), blockOf(leave)
	wantLine(t, empty, "{\n\t}")
	wantLines(t, []impl.Node{empty, empty}, "{", "}", "{", "}")
	wantLines(t, []impl.Node{blockOf(empty, leave, full)}, "{", "\t{", "\t}", "\tbreak", "\t{", "\t\tbreak", "\t}", "}")

	wantLines(t, []impl.Node{node(impl.NdIf, a, empty)}, "if a {", "}")
	wantLines(t, []impl.Node{node(impl.NdIf, a, full), leave}, "if a {", "\tbreak", "}", "break")
	wantLines(t, []impl.Node{node(impl.NdIf, a, empty, empty)}, "if a {", "} else {", "}")
	wantLines(t, []impl.Node{node(impl.NdIf, a, full, full), leave}, "if a {", "\tbreak", "} else {", "\tbreak", "}", "break")
	wantLines(t, []impl.Node{node(impl.NdIf, a, empty, node(impl.NdIf, b, full))}, "if a {", "} else if b {", "\tbreak", "}")
	wantLines(t, []impl.Node{node(impl.NdIf, a, full, node(impl.NdIf, b, empty, full)), leave}, "if a {", "\tbreak", "} else if b {", "} else {", "\tbreak", "}", "break")
	wantLines(t, []impl.Node{node(impl.NdIf, a, empty, node(impl.NdIf, b, empty, node(impl.NdIf, a, full, empty)))}, "if a {", "} else if b {", "} else if a {", "\tbreak", "} else {", "}")
	wantLines(t, []impl.Node{node(impl.NdIf, a, blockOf(node(impl.NdIf, b, empty, full)), blockOf(node(impl.NdIf, b, full)))}, "if a {", "\tif b {", "\t} else {", "\t\tbreak", "\t}", "} else {", "\tif b {", "\t\tbreak", "\t}", "}")

	wantLines(t, []impl.Node{node(impl.NdFor, empty)}, "for {", "}")
	wantLines(t, []impl.Node{node(impl.NdFor, full), leave}, "for {", "\tbreak", "}", "break")
	wantLines(t, []impl.Node{node(impl.NdFor, a, empty)}, "for a {", "}")
	wantLines(t, []impl.Node{node(impl.NdFor, named(impl.NdBinary, "<", a, b), blockOf(node(impl.NdFor, full), leave)), leave}, "for a < b {", "\tfor {", "\t\tbreak", "\t}", "\tbreak", "}", "break")
}

func caseOf(n int, name string, kids ...impl.Node) impl.Node {
	return impl.Node{Kind: impl.NdCase, N: n, Name: name, Kids: kids}
}

func TestTextOfSelects(t *testing.T) {
	a, c, leave := variable("a"), variable("c"), node(impl.NdBreak)
	empty, full := blockOf(), blockOf(leave, node(impl.NdReturn))
	wantLines(t, []impl.Node{node(impl.NdSelect)}, "select {", "}")
	wantLines(t, []impl.Node{node(impl.NdSelect), leave}, "select {", "}", "break")
	for _, d := range []struct {
		name, head string
		n          int
		kids       []impl.Node
	}{
		{"", "default:", 0, nil}, {"", "case <-c:", 1, []impl.Node{c}}, {"v", "case v := <-c:", 1, []impl.Node{c}}, {"", "case c <- a:", 2, []impl.Node{c, a}},
		{"", "case <-f(a, c):", 1, []impl.Node{callOf("f", a, c)}}, {"v", "case v := <-make(chan int):", 1, []impl.Node{node(impl.NdMake)}},
		{"", "case <-<-c:", 1, []impl.Node{node(impl.NdRecv, c)}}, {"v", "case v := <-<-c:", 1, []impl.Node{node(impl.NdRecv, c)}},
		{"", "case <-c <- <-c:", 2, []impl.Node{node(impl.NdRecv, c), node(impl.NdRecv, c)}},
		{"", "case <--a:", 1, []impl.Node{named(impl.NdUnary, "-", a)}}, {"", "case <-!a:", 1, []impl.Node{named(impl.NdUnary, "!", a)}},
		{"", "case <-(a + c):", 1, []impl.Node{named(impl.NdBinary, "+", a, c)}}, {"v", "case v := <-(a * c):", 1, []impl.Node{named(impl.NdBinary, "*", a, c)}},
		{"", "case a + c <- a || c:", 2, []impl.Node{named(impl.NdBinary, "+", a, c), named(impl.NdBinary, "||", a, c)}},
		{"", "case -a <- -(-a):", 2, []impl.Node{named(impl.NdUnary, "-", a), named(impl.NdUnary, "-", named(impl.NdUnary, "-", a))}},
	} {
		bare := caseOf(d.n, d.name, append(slices.Clone(d.kids), empty)...)
		busy := caseOf(d.n, d.name, append(slices.Clone(d.kids), full)...)
		within := caseOf(d.n, d.name, append(slices.Clone(d.kids), blockOf(node(impl.NdSelect, bare, busy), blockOf(leave)))...)
		wantLines(t, []impl.Node{node(impl.NdSelect, bare)}, "select {", d.head, "}")
		wantLines(t, []impl.Node{node(impl.NdSelect, busy)}, "select {", d.head, "\tbreak", "\treturn", "}")
		wantLines(t, []impl.Node{node(impl.NdSelect, bare, busy, bare, bare, busy), leave}, "select {", d.head, d.head, "\tbreak", "\treturn", d.head, d.head, d.head, "\tbreak", "\treturn", "}", "break")
		wantLines(t, []impl.Node{node(impl.NdSelect, within, bare)}, "select {", d.head, "\tselect {", "\t"+d.head, "\t"+d.head, "\t\tbreak", "\t\treturn", "\t}", "\t{", "\t\tbreak", "\t}", d.head, "}")
		wantLines(t, []impl.Node{node(impl.NdFor, blockOf(node(impl.NdSelect, busy)))}, "for {", "\tselect {", "\t"+d.head, "\t\tbreak", "\t\treturn", "\t}", "}")
	}
}

// wantExpression asks for the text of an expression wherever one may stand: there it has no parentheses.
func wantExpression(t *testing.T, n impl.Node, text string) {
	t.Helper()
	wantLine(t, node(impl.NdClose, n), "close("+text+")")
	wantLine(t, node(impl.NdPrint, n), "print("+text+")")
	wantLine(t, node(impl.NdPanic, n), "panic("+text+")")
	wantLine(t, node(impl.NdReturn, n), "return "+text)
	wantLine(t, named(impl.NdDefine, "x", n), "x := "+text)
	wantLine(t, named(impl.NdAssign, "x", n), "x = "+text)
	wantLine(t, node(impl.NdSend, n, n), text+" <- "+text)
	wantLines(t, []impl.Node{node(impl.NdIf, n, blockOf(), node(impl.NdIf, n, blockOf()))}, "if "+text+" {", "} else if "+text+" {", "}")
	wantLines(t, []impl.Node{node(impl.NdFor, n, blockOf())}, "for "+text+" {", "}")
	wantLines(t, []impl.Node{node(impl.NdSelect, caseOf(2, "", n, n, blockOf()))}, "select {", "case "+text+" <- "+text+":", "}")
	wantLine(t, node(impl.NdExpr, callOf("g", n)), "g("+text+")")
	wantLine(t, node(impl.NdGo, callOf("g", n, n)), "go g("+text+", "+text+")")
	wantLine(t, node(impl.NdDefer, callOf("g", whole(1), n, whole(2))), "defer g(1, "+text+", 2)")
	wantLine(t, node(impl.NdPrint, node(impl.NdMake, n)), "print(make(chan int, "+text+"))")
}

func TestTextOfExpressions(t *testing.T) {
	a, b := variable("a"), variable("b")
	for _, d := range []struct {
		n    impl.Node
		text string
	}{
		{whole(0), "0"}, {whole(1), "1"}, {whole(10), "10"}, {whole(impl.MaxInt), "999999999999999999"}, {whole(impl.MaxInt - 1), "999999999999999998"},
		{numbered(impl.NdBool, 0), "false"}, {numbered(impl.NdBool, 1), "true"}, {variable("trues"), "trues"}, {variable("_"), "_"}, {variable(strings.Repeat("Z", impl.MaxName)), strings.Repeat("Z", impl.MaxName)},
		{callOf("f"), "f()"}, {callOf("f", a), "f(a)"}, {callOf("f", a, b), "f(a, b)"}, {callOf("f", a, whole(7), callOf("g"), callOf("h", b)), "f(a, 7, g(), h(b))"},
		{node(impl.NdMake), "make(chan int)"}, {node(impl.NdMake, whole(0)), "make(chan int, 0)"}, {node(impl.NdMake, node(impl.NdMake, a)), "make(chan int, make(chan int, a))"},
		{named(impl.NdUnary, "-", a), "-a"}, {named(impl.NdUnary, "!", a), "!a"}, {node(impl.NdRecv, a), "<-a"}, {named(impl.NdUnary, "-", whole(1)), "-1"},
		{named(impl.NdBinary, "-", a, b), "a - b"}, {named(impl.NdBinary, "&&", numbered(impl.NdBool, 1), a), "true && a"},
	} {
		wantExpression(t, d.n, d.text)
	}
}

func TestTabsOfWhatStandsDeep(t *testing.T) {
	ahead, behind := "func f() {\n", "}\n"
	for deep := range impl.MaxDeep + 20 {
		tabs := strings.Repeat("\t", 1+deep)
		wantText(t, fileOf(nested(deep)), ahead+tabs+"break\n"+behind)
		switch deep % 3 {
		case 0:
			ahead, behind = ahead+tabs+"{\n", tabs+"}\n"+behind
		case 1:
			ahead, behind = ahead+tabs+"for {\n", tabs+"}\n"+behind
		default:
			ahead, behind = ahead+tabs+"select {\n"+tabs+"default:\n", tabs+"}\n"+behind
		}
	}
}

// nested has a break in so many blocks, loops and selects, by turns from the outside.
func nested(deep int) impl.Node {
	n := node(impl.NdBreak)
	for i := deep - 1; i >= 0; i-- {
		switch i % 3 {
		case 0:
			n = blockOf(n)
		case 1:
			n = node(impl.NdFor, blockOf(n))
		default:
			n = node(impl.NdSelect, node(impl.NdCase, blockOf(n)))
		}
	}
	return n
}

func TestTextsOfTreesOfMaxNodes(t *testing.T) {
	wantText(t, wideTree(597), "func f() {\n"+strings.Repeat("\tbreak\n", 597)+"}\n")
	wantText(t, deepTree(595), "func f() {\n\tprint("+strings.Repeat("-(", 594)+"-1"+strings.Repeat(")", 595)+"\n}\n")
	wantText(t, leftTree(297), "func f() {\n\tprint(1"+strings.Repeat(" + 1", 297)+")\n}\n")
	wantText(t, manyFunctions(299), "func f() {\n}\n"+strings.Repeat("\nfunc f() {\n}\n", 298))
	wantText(t, node(impl.NdFile, function("f", impl.TyInt, append(slices.Repeat([]impl.Node{parameter("a", impl.TyChan)}, 597), blockOf())...)), "func f("+strings.Repeat("a chan int, ", 596)+"a chan int) int {\n}\n")
	inner, ahead, behind := blockOf(), "", ""
	for deep := range 596 {
		inner = blockOf(inner)
		tabs := strings.Repeat("\t", deep+1)
		ahead, behind = ahead+tabs+"{\n", tabs+"}\n"+behind
	}
	tabs := strings.Repeat("\t", 597)
	wantText(t, fileOf(inner), "func f() {\n"+ahead+tabs+"{\n"+tabs+"}\n"+behind+"}\n")
	wantBad(t, fileOf(blockOf(inner)), "601 nodes, all deep")
	for _, n := range []impl.Node{wideTree(598), deepTree(596), leftTree(298), manyFunctions(300), wideTree(100000), manyFunctions(5000)} {
		wantBad(t, n, "a tree of too many nodes")
	}
}

// A text that is answered may be longer than one that may be handed in.
func TestTextsBeyondMaxText(t *testing.T) {
	const deep = 59
	inner := slices.Repeat([]impl.Node{node(impl.NdSelect)}, 539)
	want := strings.Repeat(strings.Repeat("\t", deep)+"select {\n"+strings.Repeat("\t", deep)+"}\n", 539)
	for i := deep - 1; i > 0; i-- {
		inner = []impl.Node{blockOf(inner...)}
		want = strings.Repeat("\t", i) + "{\n" + want + strings.Repeat("\t", i) + "}\n"
	}
	want = "func f() {\n" + want + "}\n"
	if len(want) <= impl.MaxText {
		t.Fatalf("the text has only %d bytes", len(want))
	}
	source := "func f() {" + strings.Repeat("{", deep-1) + strings.Repeat("select {};", 539) + strings.Repeat("}", deep)
	n, code, at := impl.Parse(source)
	if code != impl.OK || impl.Size(n) != impl.MaxNodes || show(n) != show(fileOf(inner...)) {
		t.Fatalf("the tree has %d nodes, code %d at %d", impl.Size(n), code, at)
	}
	wantText(t, n, want)
}

func TestTreesThatHaveNoText(t *testing.T) {
	kinds := []int{math.MinInt, -30, -1, 0, 31, 32, 100, 1 << 32, 1<<32 + 1, math.MaxInt}
	for kind := 2; kind <= impl.NdPick; kind++ {
		kinds = append(kinds, kind)
	}
	for _, kind := range kinds {
		wantBad(t, plainOf(kind), "a node that is no file")
		wantBad(t, node(kind, plainOf(impl.NdFunc)), "a function in what is no file")
		if kind != impl.NdFunc {
			wantBad(t, node(impl.NdFile, plainOf(kind)), "what is no function in a file")
		}
	}
	wantBad(t, impl.Node{}, "nothing")
	wantBad(t, numbered(impl.NdFile, 1), "a file with a number")
	wantBad(t, named(impl.NdFile, "f"), "a file with a name")
	wantBad(t, node(impl.NdFile, plainOf(impl.NdFile)), "a file in a file")
	wantBad(t, node(impl.NdFile, plainOf(impl.NdFunc), named(impl.NdFunc, "", blockOf())), "a function without a name")
	wantBad(t, around(plainOf(impl.NdPick)), "a pick")
	wantBad(t, fileOf(plainOf(impl.NdPick)), "a pick as a statement")
	wantBad(t, deepTree(1000000), "a tree that is very deep")
	wantBad(t, leftTree(1000000), "a tree that is very deep on its left")
	wantBad(t, wideTree(1000000), "a tree that is very wide")
	kids := make([]impl.Node, 1)
	kids[0] = impl.Node{Kind: impl.NdBlock, Kids: kids}
	wantBad(t, fileOf(kids...), "a block that stands in itself")
}

// wantTextIf asks for a text that is parsed again if the tree is right, else for none.
func wantTextIf(t *testing.T, right bool, n impl.Node) {
	t.Helper()
	if !right {
		wantBad(t, n, "a tree that is wrong in one field")
		return
	}
	text, code := impl.Print(n)
	if code != impl.OK {
		t.Errorf("Print(%.200s) has code %d", show(n), code)
		return
	}
	wantAgain(t, n, text)
	wantLayout(t, text)
}

func TestTextByKids(t *testing.T) {
	for kind, rule := range kidRules {
		form := ruleOf(rule)
		allKids(2, func(kids []impl.Node, letters string) {
			n := plainOf(kind)
			n.Kids = kids
			wantTextIf(t, form.MatchString(letters), around(n))
		})
	}
	for number, rule := range map[int]string{0: "B", 1: "EB", 2: "EEB"} {
		form := ruleOf(rule)
		allKids(3, func(kids []impl.Node, letters string) {
			wantTextIf(t, form.MatchString(letters), around(numbered(impl.NdCase, number, kids...)))
		})
	}
}

func TestTextByNumber(t *testing.T) {
	right := map[int][]int{impl.NdFunc: {0, 1, 2, 3}, impl.NdParam: {1, 2, 3}, impl.NdStep: {-1, 1}, impl.NdCase: {0}, impl.NdInt: {0, 1, 2, 3, 4, impl.MaxInt - 1, impl.MaxInt}, impl.NdBool: {0, 1}}
	for kind := impl.NdFile; kind < impl.NdPick; kind++ {
		for _, number := range []int{math.MinInt, -impl.MaxInt, -2, -1, 0, 1, 2, 3, 4, impl.MaxInt - 1, impl.MaxInt, impl.MaxInt + 1, math.MaxInt} {
			n := plainOf(kind)
			n.N = number
			fits := number == 0
			if numbers, known := right[kind]; known {
				fits = slices.Contains(numbers, number)
			}
			wantTextIf(t, fits, around(n))
		}
	}
}

func TestTextByName(t *testing.T) {
	for kind := impl.NdFile; kind < impl.NdPick; kind++ {
		for _, name := range someNames {
			n, fits := plainOf(kind), name == ""
			n.Name = name
			switch kind {
			case impl.NdFunc, impl.NdParam, impl.NdDefine, impl.NdAssign, impl.NdStep, impl.NdVar, impl.NdCall:
				fits = impl.NameOK(name)
			case impl.NdUnary:
				fits = name == "-" || name == "!"
			case impl.NdBinary:
				fits = slices.Contains(signsOfTwo, name)
			}
			wantTextIf(t, fits, around(n))
		}
	}
	for _, name := range someNames {
		wantTextIf(t, name == "" || impl.NameOK(name), around(caseOf(1, name, variable("c"), blockOf())))
		wantTextIf(t, name == "", around(caseOf(2, name, variable("c"), variable("a"), blockOf())))
	}
}
