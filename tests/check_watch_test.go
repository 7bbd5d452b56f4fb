package tests

import (
	"slices"
	"strings"
	"testing"

	"loop.example/g00135/impl"
)

// A watcher knows the nodes of a tree by their numbers, and when each is come to
// and left. It asks each node for its faults alone, in no order, by what stands
// around it, and takes the fault of the least time.
type watcher struct {
	nodes       []impl.Node
	parents     []int
	kids        [][]int
	come, left  []int
	clock       int
	broken      map[int]bool
	time        int
	code, place int
}

const never = 1 << 30

func watch(n impl.Node) *watcher {
	w := &watcher{broken: map[int]bool{}, time: never}
	w.add(n, -1)
	for at, n := range w.nodes {
		if n.Kind == impl.NdBreak {
			w.broken[w.aroundOf(at, impl.NdFor, impl.NdSelect)] = true
		}
	}
	for at := range w.nodes {
		w.look(at)
	}
	return w
}

func (w *watcher) add(n impl.Node, parent int) int {
	at := len(w.nodes)
	w.nodes, w.parents, w.kids = append(w.nodes, n), append(w.parents, parent), append(w.kids, nil)
	w.come, w.left = append(w.come, w.clock), append(w.left, 0)
	w.clock++
	for _, kid := range n.Kids {
		number := w.add(kid, at)
		w.kids[at] = append(w.kids[at], number)
	}
	w.left[at] = w.clock
	w.clock++
	return at
}

// aroundOf is the innermost node of some Kinds around a node, or -1.
func (w *watcher) aroundOf(at int, kinds ...int) int {
	for at = w.parents[at]; at >= 0 && !slices.Contains(kinds, w.nodes[at].Kind); at = w.parents[at] {
	}
	return at
}

func (w *watcher) fault(time, code, at int) {
	if time < w.time {
		w.time, w.code, w.place = time, code, at
	}
}

func (w *watcher) faultIf(wrong bool, time, code, at int) {
	if wrong {
		w.fault(time, code, at)
	}
}

// giver is the node that gives the variable of a name at a node, in the so many innermost scopes, or -1.
func (w *watcher) giver(name string, at, scopes int) int {
	for ; w.parents[at] >= 0; at = w.parents[at] {
		around := w.parents[at]
		own := w.nodes[around]
		if own.Kind == impl.NdCase && own.Name == name && w.nodes[at].Kind == impl.NdBlock {
			return around
		}
		if own.Kind == impl.NdBlock {
			scopes--
		}
		if scopes < 0 {
			break
		}
		for _, kid := range slices.Backward(w.kids[around]) {
			gives := w.nodes[kid].Kind == impl.NdDefine || w.nodes[kid].Kind == impl.NdParam
			if gives && kid < at && w.nodes[kid].Name == name {
				return kid
			}
		}
	}
	return -1
}

// givenType is the type of the variable that a node gives.
func (w *watcher) givenType(giver int) int {
	switch {
	case giver < 0:
		return impl.TyNone
	case w.nodes[giver].Kind == impl.NdDefine:
		return w.typeOf(w.kids[giver][0])
	case w.nodes[giver].Kind == impl.NdParam:
		return w.nodes[giver].N
	}
	return impl.TyInt
}

func (w *watcher) function(name string) (number int, there bool) {
	for _, at := range w.kids[0] {
		if w.nodes[at].Name == name {
			return at, true
		}
	}
	return 0, false
}

func (w *watcher) typeOf(at int) int {
	n := w.nodes[at]
	switch {
	case n.Kind == impl.NdInt || n.Kind == impl.NdRecv || n.Name == "-" || slices.Contains([]string{"+", "*", "/", "%"}, n.Name):
		return impl.TyInt
	case n.Kind == impl.NdBool || n.Kind == impl.NdUnary || n.Kind == impl.NdBinary:
		return impl.TyBool
	case n.Kind == impl.NdMake:
		return impl.TyChan
	case n.Kind == impl.NdVar:
		return w.givenType(w.giver(n.Name, at, never))
	case n.Kind == impl.NdCall:
		number, _ := w.function(n.Name)
		return w.nodes[number].N
	}
	return impl.TyNone
}

// due has the types that an expression may have where it stands; none, if it need have none, or a node is no expression.
func (w *watcher) due(at int) []int {
	if w.nodes[at].Kind < impl.NdInt {
		return nil
	}
	around := w.nodes[w.parents[at]]
	place := slices.Index(w.kids[w.parents[at]], at)
	switch around.Kind {
	case impl.NdDefine:
		return []int{impl.TyInt, impl.TyBool, impl.TyChan}
	case impl.NdPrint:
		return []int{impl.TyInt, impl.TyBool}
	case impl.NdAssign:
		return []int{w.givenType(w.giver(around.Name, w.parents[at], never))}
	case impl.NdSend, impl.NdCase:
		return []int{[]int{impl.TyChan, impl.TyInt}[place]}
	case impl.NdIf, impl.NdFor:
		return []int{impl.TyBool}
	case impl.NdReturn:
		return []int{w.nodes[w.aroundOf(at, impl.NdFunc)].N}
	case impl.NdClose, impl.NdRecv:
		return []int{impl.TyChan}
	case impl.NdPanic, impl.NdMake:
		return []int{impl.TyInt}
	case impl.NdUnary:
		return []int{map[string]int{"-": impl.TyInt, "!": impl.TyBool}[around.Name]}
	case impl.NdCall:
		if number, there := w.function(around.Name); there && place < len(w.kids[number])-1 {
			return []int{w.nodes[w.kids[number][place]].N}
		}
	case impl.NdBinary:
		return w.dueSide(around.Name, place, w.kids[w.parents[at]][0])
	}
	return nil
}

func (w *watcher) dueSide(sign string, place, left int) []int {
	switch {
	case sign == "&&" || sign == "||":
		return []int{impl.TyBool}
	case sign != "==" && sign != "!=":
		return []int{impl.TyInt}
	case place == 0:
		return []int{impl.TyInt, impl.TyBool, impl.TyChan}
	}
	return []int{w.typeOf(left)}
}

func (w *watcher) ends(at int) bool {
	kids := w.kids[at]
	switch w.nodes[at].Kind {
	case impl.NdReturn, impl.NdPanic:
		return true
	case impl.NdBlock, impl.NdFunc:
		return len(kids) > 0 && w.ends(kids[len(kids)-1])
	case impl.NdIf:
		return len(kids) == 3 && w.ends(kids[1]) && w.ends(kids[2])
	case impl.NdFor:
		return len(kids) == 1 && !w.broken[at]
	}
	return false
}

func (w *watcher) look(at int) {
	n, come, left := w.nodes[at], w.come[at], w.left[at]
	switch n.Kind {
	case impl.NdFunc:
		number, _ := w.function(n.Name)
		w.faultIf(number != at, come-never, impl.ErrTwice, at)
		w.faultIf(n.N != impl.TyNone && !w.ends(at), left, impl.ErrResult, at)
	case impl.NdParam:
		w.faultIf(w.giver(n.Name, at, 1) >= 0, come, impl.ErrTwice, at)
	case impl.NdDefine:
		w.faultIf(w.giver(n.Name, at, 1) >= 0, left, impl.ErrTwice, at)
	case impl.NdAssign, impl.NdVar:
		w.faultIf(w.giver(n.Name, at, never) < 0, come, impl.ErrName, at)
	case impl.NdStep:
		giver := w.giver(n.Name, at, never)
		w.faultIf(giver < 0, come, impl.ErrName, at)
		w.faultIf(w.givenType(giver) != impl.TyInt, come, impl.ErrType, at)
	case impl.NdReturn:
		result := w.nodes[w.aroundOf(at, impl.NdFunc)].N
		w.faultIf((result == impl.TyNone) != (len(n.Kids) == 0), come, impl.ErrResult, at)
	case impl.NdBreak:
		w.faultIf(w.aroundOf(at, impl.NdFor, impl.NdSelect) < 0, come, impl.ErrPlace, at)
	case impl.NdContinue:
		w.faultIf(w.aroundOf(at, impl.NdFor) < 0, come, impl.ErrPlace, at)
	case impl.NdCase:
		for _, kid := range w.kids[w.parents[at]] {
			w.faultIf(n.N == 0 && kid < at && w.nodes[kid].N == 0, come, impl.ErrTwice, at)
		}
	case impl.NdCall:
		number, there := w.function(n.Name)
		w.faultIf(!there, come, impl.ErrName, at)
		w.faultIf(len(w.kids[number]) != len(n.Kids)+1, come, impl.ErrCount, at)
	}
	if due := w.due(at); due != nil {
		of := w.typeOf(at)
		w.faultIf(of == impl.TyNone, left, impl.ErrResult, at)
		w.faultIf(!slices.Contains(due, of), left, impl.ErrType, at)
	}
}

// wantWatched asks for the code, the place and the types that a watcher finds.
func wantWatched(t *testing.T, n impl.Node) int {
	t.Helper()
	w := watch(n)
	if code, at := impl.Check(n); code != w.code || at != w.place {
		text, _ := impl.Print(n)
		t.Fatalf("Check has code %d at %d, not %d at %d, of\n%s", code, at, w.code, w.place, text)
	}
	types, code, at := impl.TypesOf(n)
	names, testsCode := impl.TestsOf(n)
	if code != w.code || at != w.place || testsCode != w.code {
		t.Fatalf("Check has code %d at %d, TypesOf %d at %d, TestsOf %d", w.code, w.place, code, at, testsCode)
	}
	if code != impl.OK {
		if len(types) > 0 || len(names) > 0 {
			t.Fatalf("beside code %d there are %d types and %d tests", code, len(types), len(names))
		}
		return code
	}
	for at := range w.nodes {
		if of := w.typeOf(at); types[at] != of {
			text, _ := impl.Print(n)
			t.Fatalf("node %d has type %d, not %d, in\n%s", at, types[at], of, text)
		}
	}
	var want []string
	for _, f := range n.Kids {
		if len(f.Kids) == 1 && f.N == impl.TyNone && strings.HasPrefix(f.Name, "Test") {
			want = append(want, f.Name)
		}
	}
	if len(types) != len(w.nodes) || !slices.Equal(names, want) {
		t.Fatalf("%d nodes have %d types, and the tests are %q, not %q", len(w.nodes), len(types), names, want)
	}
	return code
}

// wantCheckIf asks for what a watcher finds if the tree is right, else for ErrBad.
func wantCheckIf(t *testing.T, right bool, n impl.Node) {
	t.Helper()
	if right {
		wantWatched(t, n)
		return
	}
	wantCheck(t, n, impl.ErrBad, 0)
}

func TestChecksByKids(t *testing.T) {
	for kind, rule := range kidRules {
		form := ruleOf(rule)
		allKids(2, func(kids []impl.Node, letters string) {
			n := plainOf(kind)
			n.Kids = kids
			wantCheckIf(t, form.MatchString(letters), around(n))
		})
	}
	for number, rule := range map[int]string{0: "B", 1: "EB", 2: "EEB"} {
		form := ruleOf(rule)
		allKids(3, func(kids []impl.Node, letters string) {
			wantCheckIf(t, form.MatchString(letters), around(numbered(impl.NdCase, number, kids...)))
		})
	}
}

func TestChecksByNumberAndName(t *testing.T) {
	for kind := range len(kidLetters) {
		for number := -2; number < 5; number++ {
			n := plainOf(kind)
			n.N = number
			wantCheckIf(t, impl.TreeOK(around(n)), around(n))
		}
		for _, name := range someNames {
			n := plainOf(kind)
			n.Name = name
			wantCheckIf(t, impl.TreeOK(around(n)), around(n))
		}
	}
}
