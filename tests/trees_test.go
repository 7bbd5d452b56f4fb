package tests

import (
	"math"
	"math/rand"
	"regexp"
	"slices"
	"strings"
	"testing"

	"loop.example/g00135/impl"
)

func node(kind int, kids ...impl.Node) impl.Node { return impl.Node{Kind: kind, Kids: kids} }

func numbered(kind, n int, kids ...impl.Node) impl.Node {
	return impl.Node{Kind: kind, N: n, Kids: kids}
}

func named(kind int, name string, kids ...impl.Node) impl.Node {
	return impl.Node{Kind: kind, Name: name, Kids: kids}
}

func fileOf(statements ...impl.Node) impl.Node {
	return node(impl.NdFile, named(impl.NdFunc, "f", node(impl.NdBlock, statements...)))
}

// plainOf is a right node of a Kind, as small as can be; kinds that are none have no kids.
func plainOf(kind int) impl.Node {
	block, one := node(impl.NdBlock), numbered(impl.NdInt, 1)
	switch kind {
	case impl.NdFunc:
		return named(kind, "f", block)
	case impl.NdParam:
		return impl.Node{Kind: kind, N: impl.TyInt, Name: "a"}
	case impl.NdDefine, impl.NdAssign:
		return named(kind, "a", one)
	case impl.NdStep:
		return impl.Node{Kind: kind, N: 1, Name: "a"}
	case impl.NdSend:
		return node(kind, one, one)
	case impl.NdExpr, impl.NdGo, impl.NdDefer:
		return node(kind, named(impl.NdCall, "f"))
	case impl.NdIf:
		return node(kind, one, block)
	case impl.NdFor, impl.NdCase:
		return node(kind, block)
	case impl.NdClose, impl.NdPrint, impl.NdPanic, impl.NdRecv:
		return node(kind, one)
	case impl.NdVar, impl.NdCall:
		return named(kind, "a")
	case impl.NdUnary:
		return named(kind, "-", one)
	case impl.NdBinary:
		return named(kind, "+", one, one)
	}
	return node(kind)
}

// around puts a node where one of its Kind may stand in a file that is right beside it.
func around(n impl.Node) impl.Node {
	switch {
	case n.Kind == impl.NdFile:
		return n
	case n.Kind == impl.NdFunc:
		return node(impl.NdFile, n)
	case n.Kind == impl.NdParam:
		return node(impl.NdFile, named(impl.NdFunc, "f", n, node(impl.NdBlock)))
	case n.Kind == impl.NdCase:
		return fileOf(node(impl.NdSelect, n))
	case n.Kind >= impl.NdInt:
		return fileOf(node(impl.NdPrint, n))
	}
	return fileOf(n)
}

// kidLetters has a letter for each Kind from 0 to 31, kidRules the lists of kids that each may have.
const kidLetters = "-FfpBdatsxiLrgDSCbkcPqIOvlmUNR??"

const statementLetters, expressionLetters = "[BdatsxiLrgDSbkcPq]", "[IOvlmUNR]"

var kidRules = map[int]string{
	impl.NdFile: "f*", impl.NdFunc: "p*B", impl.NdParam: "", impl.NdBlock: statementLetters + "*",
	impl.NdDefine: "E", impl.NdAssign: "E", impl.NdStep: "", impl.NdSend: "EE", impl.NdExpr: "[lR]",
	impl.NdIf: "EB|EBB|EBi", impl.NdFor: "B|EB", impl.NdReturn: "|E", impl.NdGo: "l", impl.NdDefer: "l", impl.NdSelect: "C*",
	impl.NdBreak: "", impl.NdContinue: "", impl.NdClose: "E", impl.NdPrint: "E", impl.NdPanic: "E",
	impl.NdInt: "", impl.NdBool: "", impl.NdVar: "", impl.NdCall: "E*", impl.NdMake: "|E", impl.NdUnary: "E", impl.NdBinary: "EE", impl.NdRecv: "E",
}

func ruleOf(rule string) *regexp.Regexp {
	return regexp.MustCompile("^(?:" + strings.ReplaceAll(rule, "E", expressionLetters) + ")$")
}

// allKids calls try with each list of up to so many kids of all Kinds, and the letters of these.
func allKids(most int, try func(kids []impl.Node, letters string)) {
	var all func(kids []impl.Node, letters string)
	all = func(kids []impl.Node, letters string) {
		try(kids, letters)
		if len(kids) == most {
			return
		}
		for kind := range len(kidLetters) {
			all(append(slices.Clip(kids), plainOf(kind)), letters+kidLetters[kind:kind+1])
		}
	}
	all(nil, "")
}

func TestKidsOfEachKind(t *testing.T) {
	for kind, rule := range kidRules {
		form := ruleOf(rule)
		allKids(3, func(kids []impl.Node, letters string) {
			n := plainOf(kind)
			n.Kids = kids
			if want := form.MatchString(letters); impl.TreeOK(around(n)) != want {
				t.Errorf("a node of Kind %d with the kids %q: right is not %v", kind, letters, want)
			}
		})
	}
}

func TestKidsOfEachCase(t *testing.T) {
	for n, rule := range map[int]string{0: "B", 1: "EB", 2: "EEB"} {
		form := ruleOf(rule)
		allKids(3, func(kids []impl.Node, letters string) {
			if want := form.MatchString(letters); impl.TreeOK(around(numbered(impl.NdCase, n, kids...))) != want {
				t.Errorf("a case of number %d with the kids %q: right is not %v", n, letters, want)
			}
		})
	}
}

func TestManyKids(t *testing.T) {
	block, one, param := node(impl.NdBlock), numbered(impl.NdInt, 1), plainOf(impl.NdParam)
	for kind, most := range map[int]int{impl.NdFile: 9, impl.NdFunc: 9, impl.NdBlock: 9, impl.NdSelect: 9, impl.NdCall: 9, impl.NdSend: 2, impl.NdBinary: 2, impl.NdIf: 3, impl.NdPrint: 1} {
		n := plainOf(kind)
		switch kind {
		case impl.NdFile:
			n.Kids = slices.Repeat([]impl.Node{plainOf(impl.NdFunc)}, 9)
		case impl.NdFunc:
			n.Kids = append(slices.Repeat([]impl.Node{param}, 8), block)
		case impl.NdBlock:
			n.Kids = slices.Repeat([]impl.Node{block}, 9)
		case impl.NdSelect:
			n.Kids = slices.Repeat([]impl.Node{plainOf(impl.NdCase)}, 9)
		case impl.NdIf:
			n.Kids = append([]impl.Node{one}, slices.Repeat([]impl.Node{block}, 8)...)
		default:
			n.Kids = slices.Repeat([]impl.Node{one}, 9)
		}
		if impl.TreeOK(around(n)) != (most == 9) {
			t.Errorf("a node of Kind %d with 9 kids: right is not %v", kind, most == 9)
		}
	}
}

func TestNumberOfEachKind(t *testing.T) {
	right := map[int][]int{impl.NdFunc: {0, 1, 2, 3}, impl.NdParam: {1, 2, 3}, impl.NdStep: {-1, 1}, impl.NdInt: {0, 1, 2, 3, 4, 1000, impl.MaxInt - 1, impl.MaxInt}, impl.NdBool: {0, 1}}
	numbers := []int{math.MinInt, -impl.MaxInt, -1000, -3, -2, -1, 0, 1, 2, 3, 4, 1000, impl.MaxInt - 1, impl.MaxInt, impl.MaxInt + 1, math.MaxInt}
	for kind := range kidRules {
		allowed, known := right[kind]
		if !known {
			allowed = []int{0}
		}
		for _, number := range numbers {
			n := plainOf(kind)
			n.N = number
			if want := slices.Contains(allowed, number); impl.TreeOK(around(n)) != want {
				t.Errorf("a node of Kind %d with N %d: right is not %v", kind, number, want)
			}
		}
	}
	for _, number := range []int{math.MinInt, -1, 3, 4, math.MaxInt} {
		for kids := range 4 {
			n := numbered(impl.NdCase, number, append(slices.Repeat([]impl.Node{numbered(impl.NdInt, 1)}, kids), node(impl.NdBlock))...)
			if impl.TreeOK(around(n)) {
				t.Errorf("a case of number %d is right", number)
			}
		}
	}
}

// someNames are names and what is none, among them all signs.
var someNames = slices.Concat(allSigns, takenWords, []string{
	"", "x", "_", "A9", "iff", strings.Repeat("n", impl.MaxName), strings.Repeat("n", impl.MaxName+1), strings.Repeat("n", 100000),
	"9", "1a", "a b", " ", "a ", "a\n", "é", "\x00", "a\xff", ";", "&", "|", "+ ", "a.b",
})

func TestNameOfEachKind(t *testing.T) {
	binary := strings.Fields("|| && == != < <= > >= + - * / %")
	for kind := range kidRules {
		for _, name := range someNames {
			n, want := plainOf(kind), name == ""
			n.Name = name
			switch kind {
			case impl.NdFunc, impl.NdParam, impl.NdDefine, impl.NdAssign, impl.NdStep, impl.NdVar, impl.NdCall:
				want = impl.NameOK(name)
			case impl.NdUnary:
				want = name == "-" || name == "!"
			case impl.NdBinary:
				want = slices.Contains(binary, name)
			}
			if impl.TreeOK(around(n)) != want {
				t.Errorf("a node of Kind %d with Name %.50q: right is not %v", kind, name, want)
			}
		}
	}
}

func TestNameOfEachCase(t *testing.T) {
	for number := range 3 {
		kids := append(slices.Repeat([]impl.Node{named(impl.NdVar, "c")}, number), node(impl.NdBlock))
		for _, name := range someNames {
			n := impl.Node{Kind: impl.NdCase, N: number, Name: name, Kids: kids}
			if want := name == "" || number == 1 && impl.NameOK(name); impl.TreeOK(around(n)) != want {
				t.Errorf("a case of number %d with Name %.50q: right is not %v", number, name, want)
			}
		}
	}
}

func TestOnlyAFileIsATree(t *testing.T) {
	kinds := []int{math.MinInt, -30, -1, 32, 100, 1 << 32, 1<<32 + 1, math.MaxInt}
	for kind := range len(kidLetters) {
		if kind != impl.NdFile {
			kinds = append(kinds, kind)
		}
	}
	for _, kind := range kinds {
		if impl.TreeOK(plainOf(kind)) {
			t.Errorf("a tree of Kind %d is right", kind)
		}
		if impl.TreeOK(node(kind, plainOf(impl.NdFunc))) {
			t.Errorf("a tree of Kind %d with a function is right", kind)
		}
		if bare := kind == impl.NdInt || kind == impl.NdBool || kind == impl.NdMake; impl.TreeOK(fileOf(node(impl.NdPrint, node(kind)))) != bare {
			t.Errorf("a bare node of Kind %d as what is printed: right is not %v", kind, bare)
		}
	}
	if !impl.TreeOK(node(impl.NdFile)) {
		t.Error("a file of no functions is not right")
	}
}

// A fault counts wherever it stands.
func TestAFaultDeepInATree(t *testing.T) {
	chain := func(inner impl.Node) impl.Node {
		for range 100 {
			inner = node(impl.NdIf, named(impl.NdVar, "a"), node(impl.NdBlock, node(impl.NdBreak), inner, node(impl.NdContinue)))
		}
		return fileOf(node(impl.NdReturn), inner, node(impl.NdReturn))
	}
	if !impl.TreeOK(chain(node(impl.NdPrint, numbered(impl.NdInt, 7)))) {
		t.Error("the chain is not right")
	}
	for _, wrong := range []impl.Node{
		node(impl.NdPrint, numbered(impl.NdInt, -7)), node(impl.NdPrint, named(impl.NdVar, "if")), node(impl.NdPrint, named(impl.NdUnary, "+", numbered(impl.NdInt, 1))),
		node(impl.NdPrint), node(impl.NdPick), {}, node(impl.NdSelect, node(impl.NdBlock)), plainOf(impl.NdCase), plainOf(impl.NdFile),
	} {
		if impl.TreeOK(chain(wrong)) {
			t.Errorf("the chain is right around %v", wrong)
		}
	}
}

func deepTree(signs int) impl.Node {
	inner := numbered(impl.NdInt, 1)
	for range signs {
		inner = named(impl.NdUnary, "-", inner)
	}
	return fileOf(node(impl.NdPrint, inner))
}

func wideTree(statements int) impl.Node {
	return fileOf(slices.Repeat([]impl.Node{node(impl.NdBreak)}, statements)...)
}

func leftTree(sums int) impl.Node {
	inner := numbered(impl.NdInt, 1)
	for range sums {
		inner = named(impl.NdBinary, "+", inner, numbered(impl.NdInt, 1))
	}
	return fileOf(node(impl.NdPrint, inner))
}

func manyFunctions(count int) impl.Node {
	return node(impl.NdFile, slices.Repeat([]impl.Node{plainOf(impl.NdFunc)}, count)...)
}

func TestTreesOfMaxNodes(t *testing.T) {
	for _, c := range []struct {
		tree impl.Node
		size int
	}{
		{wideTree(597), 600}, {wideTree(598), 601}, {wideTree(100000), 100003}, {deepTree(595), 600}, {deepTree(596), 601},
		{leftTree(297), 599}, {leftTree(298), 601}, {manyFunctions(299), 599}, {manyFunctions(300), 601}, {manyFunctions(5000), 10001},
	} {
		if got := impl.Size(c.tree); got != c.size {
			t.Errorf("Size of a tree of %d nodes is %d", c.size, got)
		}
		if impl.TreeOK(c.tree) != (c.size <= impl.MaxNodes) {
			t.Errorf("a tree of %d nodes: right is not %v", c.size, c.size <= impl.MaxNodes)
		}
	}
}

func TestSizeOfAnyTree(t *testing.T) {
	draw := rand.New(rand.NewSource(1))
	for range 300 {
		want := 1
		var grow func(deep int) impl.Node
		grow = func(deep int) impl.Node {
			n := impl.Node{Kind: draw.Intn(50) - 10, N: draw.Int() - draw.Int(), Name: someNames[draw.Intn(len(someNames))]}
			for range draw.Intn(5) {
				if deep > 0 {
					want++
					n.Kids = append(n.Kids, grow(deep-1))
				}
			}
			return n
		}
		if got := impl.Size(grow(draw.Intn(7))); got != want {
			t.Fatalf("Size of a tree of %d nodes is %d", want, got)
		}
	}
	for want, tree := range map[int]impl.Node{1: {}, 2: {Kids: []impl.Node{{}}}, 4: {Kids: []impl.Node{{Kids: []impl.Node{{}}}, {}}}} {
		if got := impl.Size(tree); got != want {
			t.Errorf("Size of a tree of %d nodes is %d", want, got)
		}
	}
}

func TestVeryGreatTrees(t *testing.T) {
	const many = 1000000
	for _, c := range []struct {
		tree impl.Node
		size int
	}{{deepTree(many), many + 5}, {leftTree(many), 2*many + 5}, {wideTree(many), many + 3}} {
		if impl.TreeOK(c.tree) {
			t.Errorf("a tree of %d nodes is right", c.size)
		}
		if got := impl.Size(c.tree); got != c.size {
			t.Errorf("Size of a tree of %d nodes is %d", c.size, got)
		}
	}
	shared := impl.Node{}
	for range 20 {
		shared = impl.Node{Kids: []impl.Node{shared, shared}}
	}
	if got := impl.Size(shared); got != 1<<21-1 {
		t.Errorf("Size of a tree whose kids are twice the same is %d", got)
	}
	if impl.TreeOK(shared) {
		t.Error("a tree whose kids are twice the same is right")
	}
}

// A list of kids that stands in itself is no tree, but every call ends.
func TestAListInItself(t *testing.T) {
	kids := make([]impl.Node, 1)
	kids[0] = impl.Node{Kind: impl.NdBlock, Kids: kids}
	if impl.TreeOK(fileOf(kids...)) {
		t.Error("a block that stands in itself is right")
	}
	if got := impl.Size(fileOf(kids...)); got != 0 {
		t.Errorf("a block that stands in itself has %d nodes", got)
	}
}
