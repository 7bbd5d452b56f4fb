package tests

import (
	"math/rand"
	"reflect"
	"slices"
	"strconv"
	"strings"
	"testing"

	"loop.example/g00135/impl"
)

// A grower makes trees by chance that are right but for their size: no more than left nodes, no deeper than it is told to go.
type grower struct {
	draw *rand.Rand
	left int
	// wrong is the chance in a hundred that an expression stands where none of its Kind may.
	wrong int
}

var growNames = []string{"a", "b", "c", "f", "Test1", "_", "ints"}

func (g *grower) name() string { return growNames[g.draw.Intn(len(growNames))] }

func (g *grower) count(most int) int { return g.draw.Intn(max(1, min(most, g.left)+1)) }

func (g *grower) file(deep int) impl.Node {
	n := node(impl.NdFile)
	for range 1 + g.draw.Intn(3) {
		f := impl.Node{Kind: impl.NdFunc, N: g.draw.Intn(4), Name: g.name()}
		for range g.count(3) {
			f.Kids = append(f.Kids, impl.Node{Kind: impl.NdParam, N: 1 + g.draw.Intn(3), Name: g.name()})
		}
		f.Kids = append(f.Kids, g.block(deep))
		n.Kids = append(n.Kids, f)
	}
	return n
}

func (g *grower) block(deep int) impl.Node {
	n := node(impl.NdBlock)
	for range g.count(5) {
		n.Kids = append(n.Kids, g.statement(deep-1))
	}
	return n
}

func (g *grower) statement(deep int) impl.Node {
	g.left -= 2
	kinds := []int{impl.NdDefine, impl.NdAssign, impl.NdStep, impl.NdSend, impl.NdExpr, impl.NdExpr, impl.NdReturn, impl.NdGo, impl.NdDefer, impl.NdBreak, impl.NdContinue, impl.NdClose, impl.NdPrint, impl.NdPanic}
	if deep > 0 && g.left > 0 {
		kinds = append(kinds, impl.NdBlock, impl.NdIf, impl.NdIf, impl.NdIf, impl.NdFor, impl.NdFor, impl.NdSelect, impl.NdSelect, impl.NdBlock)
	}
	switch kind := kinds[g.draw.Intn(len(kinds))]; kind {
	case impl.NdBlock:
		return g.block(deep)
	case impl.NdDefine, impl.NdAssign:
		return named(kind, g.name(), g.value(deep))
	case impl.NdStep:
		return impl.Node{Kind: kind, N: 2*g.draw.Intn(2) - 1, Name: g.name()}
	case impl.NdSend:
		return node(kind, g.value(deep), g.value(deep))
	case impl.NdExpr, impl.NdGo, impl.NdDefer:
		return node(kind, g.valueOf(deep, kind == impl.NdExpr))
	case impl.NdIf:
		return g.ifElse(deep)
	case impl.NdFor:
		if g.draw.Intn(2) == 0 {
			return node(kind, g.block(deep))
		}
		return node(kind, g.value(deep), g.block(deep))
	case impl.NdReturn:
		if g.draw.Intn(2) == 0 {
			return node(kind)
		}
		return node(kind, g.value(deep))
	case impl.NdSelect:
		return g.choice(deep)
	case impl.NdBreak, impl.NdContinue:
		return node(kind)
	default:
		return node(kind, g.value(deep))
	}
}

func (g *grower) ifElse(deep int) impl.Node {
	n := node(impl.NdIf, g.value(deep), g.block(deep))
	switch g.draw.Intn(3) {
	case 0:
		n.Kids = append(n.Kids, g.block(deep))
	case 1:
		if deep > 0 {
			n.Kids = append(n.Kids, g.ifElse(deep-1))
		}
	}
	return n
}

// noReceive is the number of a case whose expression is no receive: no tree has it, only what is written.
const noReceive = 3

func (g *grower) choice(deep int) impl.Node {
	n := node(impl.NdSelect)
	for range g.count(4) {
		g.left -= 2
		switch clause := (impl.Node{Kind: impl.NdCase, N: g.draw.Intn(3)}); {
		case clause.N == 0:
			clause.Kids = []impl.Node{g.block(deep)}
			n.Kids = append(n.Kids, clause)
		case clause.N == 1:
			if g.draw.Intn(2) == 0 {
				clause.Name = g.name()
			}
			clause.Kids = []impl.Node{g.value(deep), g.block(deep)}
			if g.draw.Intn(100) < g.wrong && clause.Kids[0].Kind != impl.NdRecv {
				clause.N = noReceive
			}
			n.Kids = append(n.Kids, clause)
		default:
			clause.Kids = []impl.Node{g.value(deep), g.value(deep), g.block(deep)}
			n.Kids = append(n.Kids, clause)
		}
	}
	return n
}

func (g *grower) valueOf(deep int, receives bool) impl.Node {
	if g.draw.Intn(100) < g.wrong {
		return g.value(deep)
	}
	if receives && g.draw.Intn(2) == 0 {
		return node(impl.NdRecv, g.value(deep))
	}
	return g.call(deep)
}

func (g *grower) call(deep int) impl.Node {
	n := named(impl.NdCall, g.name())
	for range g.count(3) {
		n.Kids = append(n.Kids, g.value(deep-1))
	}
	return n
}

func (g *grower) value(deep int) impl.Node {
	g.left--
	kinds := []int{impl.NdInt, impl.NdBool, impl.NdVar, impl.NdMake}
	if deep > 0 && g.left > 0 {
		kinds = []int{impl.NdInt, impl.NdVar, impl.NdCall, impl.NdMake, impl.NdUnary, impl.NdUnary, impl.NdUnary, impl.NdBinary, impl.NdBinary, impl.NdBinary, impl.NdRecv}
	}
	switch kind := kinds[g.draw.Intn(len(kinds))]; kind {
	case impl.NdInt:
		return numbered(kind, []int{0, 1, 2, 77, impl.MaxInt}[g.draw.Intn(5)])
	case impl.NdBool:
		return numbered(kind, g.draw.Intn(2))
	case impl.NdVar:
		return named(kind, g.name())
	case impl.NdCall:
		return g.call(deep)
	case impl.NdMake:
		if deep <= 0 || g.draw.Intn(2) == 0 {
			return node(kind)
		}
		return node(kind, g.value(deep-1))
	case impl.NdUnary:
		return named(kind, []string{"-", "!"}[g.draw.Intn(2)], g.value(deep-1))
	case impl.NdBinary:
		return named(kind, signsOfTwo[g.draw.Intn(len(signsOfTwo))], g.value(deep-1), g.value(deep-1))
	default:
		return node(kind, g.value(deep-1))
	}
}

// A scribe writes a tree down in one of the ways in which it may be written, and knows the first fault of the text: what is open at each token, and what stands where it may not.
type scribe struct {
	draw        *rand.Rand
	text        strings.Builder
	open        int
	code, place int
	// extra is the chance in a hundred of parentheses that are not needed.
	extra int
}

func (s *scribe) put(token string) int {
	blanks := []string{" ", "  ", "\t", " \r "}
	s.text.WriteString(blanks[s.draw.Intn(len(blanks))])
	at := s.text.Len()
	s.text.WriteString(token)
	if s.draw.Intn(8) == 0 && !endForm.MatchString(token) && strings.ContainsAny(token[:1], "(){},:=!<>+-*/%&|") {
		s.text.WriteString([]string{"\n", " // a\n", "\n\n"}[s.draw.Intn(3)])
	}
	return at
}

func (s *scribe) fault(code, place int) {
	if s.code == impl.OK {
		s.code, s.place = code, place
	}
}

func (s *scribe) enter(token string) {
	at := s.put(token)
	if s.open++; s.open > impl.MaxDeep {
		s.fault(impl.ErrDeep, at)
	}
}

func (s *scribe) leave(token string) {
	s.put(token)
	s.open--
}

func (s *scribe) semicolons(least int) {
	for range least + s.draw.Intn(2)*s.draw.Intn(3) {
		s.text.WriteString([]string{";", " ; ", ";\n", "\n;"}[s.draw.Intn(4)])
	}
}

func (s *scribe) file(n impl.Node) {
	s.semicolons(0)
	for i, f := range n.Kids {
		s.put("func")
		s.put(f.Name)
		s.put("(")
		for j, param := range f.Kids[:len(f.Kids)-1] {
			if j > 0 {
				s.put(",")
			}
			s.put(param.Name)
			s.typeOf(param.N)
		}
		s.put(")")
		s.typeOf(f.N)
		s.block(f.Kids[len(f.Kids)-1])
		if i+1 < len(n.Kids) {
			s.end()
		}
		s.semicolons(0)
	}
}

func (s *scribe) typeOf(n int) {
	for _, word := range strings.Fields([]string{"", "int", "bool", "chan int"}[n]) {
		s.put(word)
	}
}

func (s *scribe) end() {
	if s.draw.Intn(2) == 0 {
		s.text.WriteString([]string{"\n", "\n\n", " // r ;\n"}[s.draw.Intn(3)])
		s.semicolons(0)
		return
	}
	s.semicolons(1)
}

func (s *scribe) block(n impl.Node) {
	s.enter("{")
	s.statements(n.Kids, true)
	s.leave("}")
}

// A semicolon may be missing behind the last statement, but for a return that has nothing behind it and no brace.
func (s *scribe) statements(list []impl.Node, brace bool) {
	s.semicolons(0)
	for i, n := range list {
		s.statement(n)
		last := i+1 == len(list) && (brace || n.Kind != impl.NdReturn || len(n.Kids) > 0)
		if !last || s.draw.Intn(2) == 0 {
			s.end()
		}
	}
}

var kindText = map[int]string{impl.NdGo: "go", impl.NdDefer: "defer", impl.NdBreak: "break", impl.NdContinue: "continue", impl.NdClose: "close", impl.NdPrint: "print", impl.NdPanic: "panic", impl.NdDefine: ":=", impl.NdAssign: "="}

func (s *scribe) statement(n impl.Node) {
	switch n.Kind {
	case impl.NdBlock:
		s.block(n)
	case impl.NdDefine, impl.NdAssign:
		s.put(n.Name)
		s.put(kindText[n.Kind])
		s.value(n.Kids[0], 1)
	case impl.NdStep:
		s.put(n.Name)
		s.put(map[int]string{1: "++", -1: "--"}[n.N])
	case impl.NdSend:
		s.value(n.Kids[0], 1)
		s.put("<-")
		s.value(n.Kids[1], 1)
	case impl.NdExpr:
		s.due(n.Kids[0], impl.NdCall, impl.NdRecv)
	case impl.NdGo, impl.NdDefer:
		s.put(kindText[n.Kind])
		s.due(n.Kids[0], impl.NdCall)
	case impl.NdIf:
		s.ifElse(n)
	case impl.NdFor:
		s.put("for")
		if len(n.Kids) == 2 {
			s.value(n.Kids[0], 1)
		}
		s.block(n.Kids[len(n.Kids)-1])
	case impl.NdReturn:
		s.put("return")
		if len(n.Kids) == 1 {
			s.value(n.Kids[0], 1)
		}
	case impl.NdSelect:
		s.choice(n)
	case impl.NdBreak, impl.NdContinue:
		s.put(kindText[n.Kind])
	default:
		s.put(kindText[n.Kind])
		s.inside(n.Kids[0])
	}
}

func (s *scribe) due(n impl.Node, kinds ...int) {
	at := s.value(n, 1)
	if !slices.Contains(kinds, n.Kind) {
		s.fault(impl.ErrForm, at)
	}
}

func (s *scribe) ifElse(n impl.Node) {
	s.enter("if")
	s.value(n.Kids[0], 1)
	s.block(n.Kids[1])
	if len(n.Kids) == 3 {
		s.put("else")
		if n.Kids[2].Kind == impl.NdIf {
			s.ifElse(n.Kids[2])
		} else {
			s.block(n.Kids[2])
		}
	}
	s.open--
}

func (s *scribe) choice(n impl.Node) {
	s.put("select")
	s.enter("{")
	for i, clause := range n.Kids {
		if clause.N == 0 {
			s.put("default")
		} else {
			s.put("case")
		}
		if clause.Name != "" {
			s.put(clause.Name)
			s.put(":=")
		}
		switch clause.N {
		case 1:
			s.value(node(impl.NdRecv, clause.Kids[0]), 1)
		case 2:
			s.value(clause.Kids[0], 1)
			s.put("<-")
			s.value(clause.Kids[1], 1)
		case noReceive:
			s.due(clause.Kids[0], impl.NdRecv)
		}
		s.put(":")
		s.statements(clause.Kids[len(clause.Kids)-1].Kids, i+1 == len(n.Kids))
	}
	s.leave("}")
}

func (s *scribe) inside(n impl.Node) int {
	at := s.text.Len()
	s.enter("(")
	s.value(n, 1)
	s.leave(")")
	return at + strings.IndexByte(s.text.String()[at:], '(')
}

func levelOf(sign string) int {
	return 1 + slices.IndexFunc(signLevels, func(level []string) bool { return slices.Contains(level, sign) })
}

// value writes an expression where signs that bind less than least need parentheses; it tells where its first token stands.
func (s *scribe) value(n impl.Node, least int) int {
	if n.Kind == impl.NdBinary && levelOf(n.Name) < least || s.draw.Intn(100) < s.extra {
		return s.inside(n)
	}
	switch n.Kind {
	case impl.NdInt:
		return s.put(strconv.Itoa(n.N))
	case impl.NdBool:
		return s.put([]string{"false", "true"}[n.N])
	case impl.NdVar:
		return s.put(n.Name)
	case impl.NdCall:
		at := s.put(n.Name)
		s.enter("(")
		for i, kid := range n.Kids {
			if i > 0 {
				s.put(",")
			}
			s.value(kid, 1)
		}
		s.leave(")")
		return at
	case impl.NdMake:
		at := s.put("make")
		s.enter("(")
		s.typeOf(impl.TyChan)
		if len(n.Kids) == 1 {
			s.put(",")
			s.value(n.Kids[0], 1)
		}
		s.leave(")")
		return at
	case impl.NdBinary:
		level := levelOf(n.Name)
		at := s.value(n.Kids[0], level)
		s.put(n.Name)
		s.value(n.Kids[1], level+1)
		return at
	}
	sign := n.Name
	if n.Kind == impl.NdRecv {
		sign = "<-"
	}
	at := s.text.Len()
	s.enter(sign)
	s.value(n.Kids[0], len(signLevels)+1)
	s.open--
	return at + strings.Index(s.text.String()[at:], sign)
}

// wantWritten holds Parse against what was written: the tree, or the first fault that the scribe knows of.
func wantWritten(t *testing.T, n impl.Node, s *scribe) int {
	t.Helper()
	text := s.text.String()
	wantCode, wantAt := s.code, s.place
	if _, code, at := impl.Tokens(text); code != impl.OK {
		wantCode, wantAt = code, at
	} else if size := impl.Size(n); wantCode == impl.OK && size > impl.MaxNodes {
		wantCode = impl.ErrMany
	}
	got, code, at := impl.Parse(text)
	if code != wantCode || at != wantAt {
		t.Fatalf("Parse(%q) has code %d at %d, not %d at %d", text, code, at, wantCode, wantAt)
	}
	want := n
	if code != impl.OK {
		want = impl.Node{}
	}
	if show(got) != show(want) {
		t.Fatalf("Parse(%q) = %s; not %s", text, show(got), show(want))
	}
	return code
}

func TestWrittenTreesAreParsed(t *testing.T) {
	draw := rand.New(rand.NewSource(7))
	codes := map[int]int{}
	for i := range 6000 {
		g := &grower{draw: draw, left: 5 + draw.Intn(120)}
		s := &scribe{draw: draw, extra: draw.Intn(3) * 10}
		deep := 3 + draw.Intn(6)
		if i%3 == 1 {
			g.left, deep = 100+draw.Intn(900), 30+draw.Intn(40)
			s.extra = draw.Intn(60)
		}
		if i%3 == 2 {
			g.wrong = 1 + draw.Intn(20)
		}
		n := g.file(deep)
		s.file(n)
		codes[wantWritten(t, n, s)]++
	}
	for _, code := range []int{impl.OK, impl.ErrForm, impl.ErrDeep, impl.ErrMany} {
		if codes[code] < 50 {
			t.Errorf("only %d texts have code %d", codes[code], code)
		}
	}
	t.Log("texts by code:", codes)
}

// An answer is right, and has no other answer.
func TestWrittenTreesAreRight(t *testing.T) {
	draw := rand.New(rand.NewSource(8))
	for range 500 {
		g := &grower{draw: draw, left: 60}
		s := &scribe{draw: draw, extra: 10}
		n := g.file(5)
		s.file(n)
		got, code, _ := impl.Parse(s.text.String())
		if code == impl.OK && (!impl.TreeOK(got) || !impl.TreeOK(n) || !reflect.DeepEqual(emptyAsNil(got), emptyAsNil(n))) {
			t.Fatalf("Parse(%q) = %s", s.text.String(), show(got))
		}
	}
}

func emptyAsNil(n impl.Node) impl.Node {
	var kids []impl.Node
	for _, kid := range n.Kids {
		kids = append(kids, emptyAsNil(kid))
	}
	n.Kids = kids
	return n
}
