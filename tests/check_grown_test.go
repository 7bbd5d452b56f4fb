package tests

import (
	"math/rand"
	"slices"
	"testing"

	"loop.example/g00135/impl"
)

// A typist makes trees by chance that check, but for what is drawn wrong.
type typist struct {
	draw      *rand.Rand
	left      int
	wrong     int
	functions []impl.Node
	scopes    [][]impl.Node
	result    int
	around    []int
}

// slips says that the next thing is drawn without regard to what is right.
func (y *typist) slips() bool { return y.draw.Intn(1000) < y.wrong }

func (y *typist) one(list []string) string { return list[y.draw.Intn(len(list))] }

var typedNames = []string{"a", "b", "c", "d", "f0", "f1"}

// freeName is a name that the innermost scope has not, if there is one.
func (y *typist) freeName() string {
	name := y.one(typedNames)
	inner := y.scopes[len(y.scopes)-1]
	for range 20 {
		if y.slips() || !slices.ContainsFunc(inner, func(n impl.Node) bool { return n.Name == name }) {
			return name
		}
		name = y.one(typedNames)
	}
	return ""
}

func (y *typist) give(name string, of int) {
	last := len(y.scopes) - 1
	y.scopes[last] = append(y.scopes[last], parameter(name, of))
}

// variables are the names of the variables of a type that can be seen.
func (y *typist) variables(of int) []string {
	var list []string
	for _, name := range typedNames {
		for _, scope := range slices.Backward(y.scopes) {
			at := slices.IndexFunc(scope, func(n impl.Node) bool { return n.Name == name })
			if at >= 0 && scope[at].N == of {
				list = append(list, name)
			}
			if at >= 0 {
				break
			}
		}
	}
	if y.slips() {
		return typedNames
	}
	return list
}

func (y *typist) callsOf(of int) []impl.Node {
	var list []impl.Node
	for _, f := range y.functions {
		if f.N == of {
			list = append(list, f)
		}
	}
	return list
}

func (y *typist) file() impl.Node {
	n := node(impl.NdFile)
	for i := range 2 + y.draw.Intn(4) {
		f := function([]string{"f0", "f1", "f2", "Test3", "Test4", "Test"}[i], y.draw.Intn(4))
		if y.slips() {
			f.Name = "f0"
		}
		for _, name := range typedNames[:y.draw.Intn(4)] {
			if y.slips() {
				name = "a"
			}
			f.Kids = append(f.Kids, parameter(name, 1+y.draw.Intn(3)))
		}
		y.functions = append(y.functions, f)
	}
	for _, f := range y.functions {
		y.result = f.N
		y.scopes = [][]impl.Node{slices.Clone(f.Kids)}
		body := blockOf(y.statements(4)...)
		if f.N != impl.TyNone && !y.slips() {
			body.Kids = append(body.Kids, y.end())
		}
		f.Kids = append(slices.Clone(f.Kids), body)
		n.Kids = append(n.Kids, f)
	}
	return n
}

func (y *typist) end() impl.Node {
	switch y.draw.Intn(5) {
	case 0:
		return node(impl.NdPanic, y.value(impl.TyInt, 1))
	case 1:
		return node(impl.NdFor, unbroken(y.inside(1, impl.NdFor)))
	case 2:
		return node(impl.NdIf, y.value(impl.TyBool, 1), blockOf(y.end()), blockOf(y.end()))
	}
	return node(impl.NdReturn, y.value(y.result, 2))
}

// inside is a block in something that a break or continue may leave, or in nothing such (0).
func (y *typist) inside(deep, kind int) impl.Node {
	y.scopes = append(y.scopes, nil)
	y.around = append(y.around, kind)
	n := blockOf(y.statements(deep)...)
	y.around = y.around[:len(y.around)-1]
	y.scopes = y.scopes[:len(y.scopes)-1]
	return n
}

// unbroken is a for's block without the breaks that leave this for.
func unbroken(n impl.Node) impl.Node {
	if n.Kind == impl.NdBreak {
		return blockOf()
	}
	if n.Kind == impl.NdFor || n.Kind == impl.NdSelect {
		return n
	}
	for i := range n.Kids {
		n.Kids[i] = unbroken(n.Kids[i])
	}
	return n
}

func (y *typist) statements(deep int) []impl.Node {
	var list []impl.Node
	for range y.draw.Intn(5) {
		if y.left > 0 {
			list = append(list, y.statement(deep-1))
		}
	}
	return list
}

func (y *typist) statement(deep int) impl.Node {
	y.left -= 3
	if deep > 0 && y.draw.Intn(3) == 0 {
		return y.nesting(deep)
	}
	switch kind := impl.NdDefine + y.draw.Intn(impl.NdPanic-impl.NdDefine+1); kind {
	case impl.NdDefine:
		return y.define(deep)
	case impl.NdAssign, impl.NdStep:
		return y.change(kind, deep)
	case impl.NdSend:
		return node(kind, y.value(impl.TyChan, deep), y.value(impl.TyInt, deep))
	case impl.NdExpr, impl.NdGo, impl.NdDefer:
		if call := y.call(y.draw.Intn(4), deep); call.Kind == impl.NdCall {
			return node(kind, call)
		}
	case impl.NdReturn:
		if (y.result == impl.TyNone) != y.slips() {
			return node(kind)
		}
		return node(kind, y.value(y.result, deep))
	case impl.NdBreak:
		if len(y.around) > 0 && slices.Max(y.around) > 0 || y.slips() {
			return node(kind)
		}
	case impl.NdContinue:
		if slices.Contains(y.around, impl.NdFor) || y.slips() {
			return node(kind)
		}
	case impl.NdClose:
		return node(kind, y.value(impl.TyChan, deep))
	case impl.NdPrint:
		return node(kind, y.value(1+y.draw.Intn(2), deep))
	case impl.NdPanic:
		return node(kind, y.value(impl.TyInt, deep))
	}
	return y.define(deep)
}

func (y *typist) define(deep int) impl.Node {
	of := 1 + y.draw.Intn(3)
	value, name := y.value(of, deep), y.freeName()
	if name == "" {
		return node(impl.NdExpr, node(impl.NdRecv, y.value(impl.TyChan, deep)))
	}
	y.give(name, of)
	return named(impl.NdDefine, name, value)
}

func (y *typist) change(kind, deep int) impl.Node {
	of := impl.TyInt
	if kind == impl.NdAssign {
		of = 1 + y.draw.Intn(3)
	}
	list := y.variables(of)
	switch {
	case len(list) == 0:
		return y.define(deep)
	case kind == impl.NdStep:
		return impl.Node{Kind: kind, N: 2*y.draw.Intn(2) - 1, Name: y.one(list)}
	}
	return named(kind, y.one(list), y.value(of, deep))
}

func (y *typist) nesting(deep int) impl.Node {
	switch y.draw.Intn(4) {
	case 0:
		return y.inside(deep, 0)
	case 1:
		n := node(impl.NdIf, y.value(impl.TyBool, deep), y.inside(deep, 0))
		if y.draw.Intn(2) == 0 {
			n.Kids = append(n.Kids, y.inside(deep, 0))
		}
		return n
	case 2:
		if y.draw.Intn(2) == 0 {
			return node(impl.NdFor, y.inside(deep, impl.NdFor))
		}
		return node(impl.NdFor, y.value(impl.TyBool, deep), y.inside(deep, impl.NdFor))
	}
	n := node(impl.NdSelect)
	places := y.draw.Perm(4)
	for _, place := range places[:y.draw.Intn(4)] {
		n.Kids = append(n.Kids, y.clause(place, deep))
	}
	return n
}

func (y *typist) clause(place, deep int) impl.Node {
	if place == 0 || y.slips() {
		return caseOf(0, "", y.inside(deep, impl.NdSelect))
	}
	channel := y.value(impl.TyChan, deep)
	switch place {
	case 1:
		return caseOf(1, "", channel, y.inside(deep, impl.NdSelect))
	case 2:
		return caseOf(2, "", channel, y.value(impl.TyInt, deep), y.inside(deep, impl.NdSelect))
	}
	name := y.one(typedNames)
	y.scopes = append(y.scopes, []impl.Node{parameter(name, impl.TyInt)})
	y.around = append(y.around, impl.NdSelect)
	body := blockOf(y.statements(deep)...)
	y.around = y.around[:len(y.around)-1]
	y.scopes = y.scopes[:len(y.scopes)-1]
	return caseOf(1, name, channel, body)
}

// call is a call with that result, or another expression if there is no such function.
func (y *typist) call(of, deep int) impl.Node {
	list := y.callsOf(of)
	if len(list) == 0 {
		return y.value(max(of, 1), deep)
	}
	f := list[y.draw.Intn(len(list))]
	n := callOf(f.Name)
	if y.slips() {
		n.Name = y.one(typedNames)
	}
	for _, p := range f.Kids {
		n.Kids = append(n.Kids, y.value(p.N, deep-1))
	}
	if y.slips() {
		n.Kids = append(n.Kids, y.value(impl.TyInt, 0))
	}
	return n
}

func (y *typist) value(of, deep int) impl.Node {
	y.left--
	if y.slips() {
		of = y.draw.Intn(4)
	}
	if list := y.variables(of); len(list) > 0 && y.draw.Intn(2) == 0 {
		return variable(y.one(list))
	}
	if deep > 0 && y.left > 0 && y.draw.Intn(2) == 0 {
		return y.deepValue(of, deep-1)
	}
	switch of {
	case impl.TyNone:
		return y.call(of, deep)
	case impl.TyBool:
		return numbered(impl.NdBool, y.draw.Intn(2))
	case impl.TyChan:
		return node(impl.NdMake)
	}
	return whole(y.draw.Intn(10))
}

func (y *typist) deepValue(of, deep int) impl.Node {
	if y.draw.Intn(4) == 0 {
		return y.call(of, deep)
	}
	switch of {
	case impl.TyNone:
		return y.call(of, deep)
	case impl.TyChan:
		return node(impl.NdMake, y.value(impl.TyInt, deep))
	case impl.TyInt:
		switch y.draw.Intn(4) {
		case 0:
			return signNode("-", y.value(of, deep))
		case 1:
			return signNode("<-", y.value(impl.TyChan, deep))
		}
		return y.sides([]string{"+", "-", "*", "/", "%"}, of, deep)
	}
	switch y.draw.Intn(4) {
	case 0:
		return signNode("!", y.value(of, deep))
	case 1:
		return y.sides([]string{"&&", "||"}, of, deep)
	case 2:
		return y.sides([]string{"==", "!="}, 1+y.draw.Intn(3), deep)
	}
	return y.sides([]string{"<", "<=", ">", ">="}, impl.TyInt, deep)
}

func (y *typist) sides(signs []string, of, deep int) impl.Node {
	left := y.value(of, deep)
	return twoSides(y.one(signs), left, y.value(of, deep))
}

func TestTypedTreesCheck(t *testing.T) {
	draw := rand.New(rand.NewSource(14))
	small := 0
	for range 8000 {
		y := &typist{draw: draw, left: 20 + draw.Intn(150)}
		n := y.file()
		if !impl.TreeOK(n) {
			continue
		}
		small++
		if code := wantWatched(t, n); code != impl.OK {
			text, _ := impl.Print(n)
			t.Fatalf("a tree has code %d that was made to check:\n%s", code, text)
		}
	}
	if small < 7000 {
		t.Errorf("only %d trees are small enough", small)
	}
}

func TestTreesHaveTheFaultThatIsMetFirst(t *testing.T) {
	draw := rand.New(rand.NewSource(15))
	codes := map[int]int{}
	for i := range 60000 {
		y := &typist{draw: draw, left: 10 + draw.Intn(80), wrong: []int{3, 10, 30, 100, 300}[i%5]}
		if n := y.file(); impl.TreeOK(n) {
			codes[wantWatched(t, n)]++
		}
	}
	for _, code := range []int{impl.OK, impl.ErrName, impl.ErrTwice, impl.ErrType, impl.ErrCount, impl.ErrResult, impl.ErrPlace} {
		if codes[code] < 500 {
			t.Errorf("only %d trees have code %d", codes[code], code)
		}
	}
}

// Trees by chance that know nothing of types have a fault nearly always.
func TestAnyTreeChecksOrHasAFault(t *testing.T) {
	draw := rand.New(rand.NewSource(16))
	codes := map[int]int{}
	for range 40000 {
		g := &grower{draw: draw, left: draw.Intn(30)}
		n := g.file(1 + draw.Intn(4))
		for range draw.Intn(3) {
			spoil(&n, draw)
		}
		if impl.TreeOK(n) {
			codes[wantWatched(t, n)]++
			continue
		}
		wantCheck(t, n, impl.ErrBad, 0)
		codes[impl.ErrBad]++
	}
	if codes[impl.ErrBad] < 1000 || codes[impl.OK] < 100 {
		t.Error("trees by code:", codes)
	}
}
