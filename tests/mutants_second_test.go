package tests

import (
	"math/rand"
	"slices"
	"strings"
	"testing"

	"loop.example/g00135/impl"
)

// secondMade is what a mutant makes of its node, if it is one: any three numbers may be asked for.
func secondMade(w *watcher, m impl.Mutant) (made impl.Node, is bool) {
	n := w.nodes[m.Node]
	made = n
	made.Kids = slices.Clone(n.Kids)
	if m.Alt != 0 && m.Kind != impl.MuOp && m.Kind != impl.MuInt && m.Kind != impl.MuCase {
		return made, false
	}
	switch m.Kind {
	case impl.MuOp:
		class := secondClass(w, m.Node)
		is = m.Alt >= 0 && m.Alt < len(class) && class[m.Alt] != n.Name
		if is {
			made.Name = class[m.Alt]
		}
	case impl.MuNot:
		is = (n.Kind == impl.NdIf || n.Kind == impl.NdFor) && n.Kids[0].Kind >= impl.NdInt
		if is {
			made.Kids[0] = named(impl.NdUnary, "!", made.Kids[0])
		}
	case impl.MuInt:
		made.N = []int{n.N + 1, 0}[m.Alt&1]
		is = n.Kind == impl.NdInt && m.Alt&1 == m.Alt && made.N != n.N && made.N <= impl.MaxInt
	case impl.MuBool:
		made.N ^= 1
		is = n.Kind == impl.NdBool
	case impl.MuDrop:
		made = blockOf()
		is = slices.Contains(strings.Fields("assign step send expr go defer close print"), kindWords[n.Kind])
	case impl.MuSwap:
		is = n.Kind == impl.NdIf && len(n.Kids) == 3 && n.Kids[2].Kind == impl.NdBlock && show(n.Kids[1]) != show(n.Kids[2])
		if is {
			slices.Reverse(made.Kids[1:])
		}
	case impl.MuCap:
		is = n.Kind == impl.NdMake
		if made.Kids = nil; len(n.Kids) == 0 {
			made.Kids = []impl.Node{whole(1)}
		}
	case impl.MuGo:
		made.Kind = impl.NdExpr
		is = n.Kind == impl.NdGo
	case impl.MuCase:
		is = n.Kind == impl.NdSelect && m.Alt >= 0 && m.Alt < len(n.Kids)
		if is {
			made.Kids = slices.Delete(made.Kids, m.Alt, m.Alt+1)
		}
	}
	return made, is
}

// secondClass finds the signs of a class by what checks beside the same sides.
func secondClass(w *watcher, at int) []string {
	n := w.nodes[at]
	if n.Kind != impl.NdBinary {
		return nil
	}
	of, whole := w.typeOf(w.kids[at][0]), w.typeOf(at)
	switch {
	case of != whole && of == impl.TyInt:
		return []string{"<", "<=", ">", ">=", "==", "!="}
	case of == impl.TyInt:
		return []string{"+", "-", "*", "/", "%"}
	case n.Name == "&&" || n.Name == "||":
		return []string{"&&", "||"}
	}
	return []string{"==", "!="}
}

// secondMutants are all mutants of a tree that checks: of all numbers those that are some.
func secondMutants(n impl.Node) (list []impl.Mutant, made []impl.Node) {
	w := watch(n)
	for at, node := range w.nodes {
		alts := 7
		if node.Kind == impl.NdSelect {
			alts += len(node.Kids)
		}
		for kind := range impl.MuCase + 2 {
			for alt := range alts {
				m := impl.Mutant{Kind: kind, Node: at, Alt: alt}
				if other, is := secondMade(w, m); is {
					list, made = append(list, m), append(made, other)
				}
			}
		}
	}
	return list, made
}

// wantSecondMutants holds all mutants, or some if they are many, against their second way.
func wantSecondMutants(t *testing.T, n impl.Node, draw *rand.Rand, kinds map[int]int) int {
	t.Helper()
	want, made := secondMutants(n)
	list, code := impl.Mutants(n)
	if len(want) > impl.MaxMutants {
		if code != impl.ErrMany || len(list) > 0 {
			t.Fatalf("%d mutants of %.2000s\nare %d with code %d", len(want), show(n), len(list), code)
		}
	} else if code != impl.OK || !slices.Equal(list, want) {
		t.Fatalf("the mutants of %.2000s\nare %v with code %d, not %v", show(n), list, code, want)
	}
	to := trails(n, nil)
	for range min(len(want), 20) {
		i := draw.Intn(len(want))
		m := want[i]
		tree, _ := put(n, to[m.Node], made[i])
		if got, code := impl.Mutate(n, m); code != impl.OK || show(got) != show(tree) {
			t.Fatalf("%v makes of %.2000s\n%.2000s with code %d, not\n%.2000s", m, show(n), show(got), code, show(tree))
		}
		kinds[m.Kind]++
	}
	for range 10 {
		m := impl.Mutant{Kind: draw.Intn(12) - 1, Node: draw.Intn(len(to)+2) - 1, Alt: draw.Intn(8) - 1}
		if _, code := impl.Mutate(n, m); (code == impl.OK) != slices.Contains(want, m) || code != impl.OK && code != impl.ErrNone {
			t.Fatalf("%v of %.2000s\nhas code %d", m, show(n), code)
		}
	}
	return code
}

// vary changes some things of a tree that checks so that it still does: numbers at their edges, an else where none was.
func vary(n *impl.Node, draw *rand.Rand) {
	for i := range n.Kids {
		vary(&n.Kids[i], draw)
	}
	switch {
	case n.Kind == impl.NdInt && draw.Intn(3) == 0:
		n.N = []int{0, 1, impl.MaxInt - 1, impl.MaxInt}[draw.Intn(4)]
	case n.Kind == impl.NdIf && len(n.Kids) == 2:
		switch draw.Intn(4) {
		case 0:
			n.Kids = append(slices.Clip(n.Kids), n.Kids[1])
		case 1:
			n.Kids = append(slices.Clip(n.Kids), *n)
		case 2:
			n.Kids = append(slices.Clip(n.Kids), blockOf())
		}
	}
}

// eachTyped calls try with trees by chance that check, small ones and great ones.
func eachTyped(t *testing.T, seed int64, count int, try func(n impl.Node, draw *rand.Rand)) {
	t.Helper()
	draw := rand.New(rand.NewSource(seed))
	for range count {
		y := &typist{draw: draw, left: 20 + draw.Intn(20+draw.Intn(400))}
		n := y.file()
		vary(&n, draw)
		if !impl.TreeOK(n) {
			continue
		}
		if code, at := impl.Check(n); code != impl.OK {
			t.Fatalf("a tree has code %d at %d that was made to check: %s", code, at, show(n))
		}
		try(n, draw)
	}
}

func TestMutantsAreThoseOfTheSecondWay(t *testing.T) {
	codes, kinds := map[int]int{}, map[int]int{}
	eachTyped(t, 42, 900, func(n impl.Node, draw *rand.Rand) {
		if draw.Intn(8) == 0 {
			n = padded(n, impl.MaxNodes-draw.Intn(200), node(impl.NdPanic, whole(7)))
		}
		codes[wantSecondMutants(t, n, draw, kinds)]++
	})
	eachSketch(t, 43, 300, func(n impl.Node, _ string, draw *rand.Rand) { codes[wantSecondMutants(t, n, draw, kinds)]++ })
	eachPlay(t, 44, 300, func(n impl.Node, _ string, draw *rand.Rand) { codes[wantSecondMutants(t, n, draw, kinds)]++ })
	t.Log("trees by code:", codes, "mutants by Kind:", kinds)
	if codes[impl.OK] < 1000 || codes[impl.ErrMany] < 20 {
		t.Error("trees by code:", codes)
	}
	for kind := impl.MuOp; kind <= impl.MuCase; kind++ {
		if kinds[kind] < 100 {
			t.Errorf("only %d mutants are of Kind %d", kinds[kind], kind)
		}
	}
}

// A tree of which some things were changed has mutants just where it checks still.
func TestAnyTreeHasMutantsOrACode(t *testing.T) {
	codes, kinds := map[int]int{}, map[int]int{}
	eachTyped(t, 45, 1500, func(n impl.Node, draw *rand.Rand) {
		n = emptyAsNil(n)
		for range 1 + draw.Intn(2) {
			if draw.Intn(2) == 0 {
				spoil(&n, draw)
			} else {
				n = transplanted(n, draw)
			}
		}
		code, _ := impl.Check(n)
		if codes[code]++; code == impl.OK {
			wantSecondMutants(t, n, draw, kinds)
			return
		}
		m := impl.Mutant{Kind: draw.Intn(12) - 1, Node: draw.Intn(40) - 1, Alt: draw.Intn(8) - 1}
		list, listCode := impl.Mutants(n)
		made, madeCode := impl.Mutate(n, m)
		if listCode != code || madeCode != code || len(list) > 0 || !isZeroNode(made) {
			t.Fatalf("beside Check's code %d there are %d mutants with code %d, and a tree with code %d", code, len(list), listCode, madeCode)
		}
	})
	for _, code := range []int{impl.OK, impl.ErrBad, impl.ErrName, impl.ErrType} {
		if codes[code] < 50 {
			t.Error("trees by code:", codes)
		}
	}
}
