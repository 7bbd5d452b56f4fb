package tests

import (
	"math/rand"
	"slices"
	"testing"

	"loop.example/g00135/impl"
)

// at is the node to which a trail leads.
func (to trail) at(n impl.Node) impl.Node {
	for _, place := range to {
		n = n.Kids[place]
	}
	return n
}

// secondWoven puts the picks in one by one, the last node's first: what is within a node is woven ahead of it.
func secondWoven(n impl.Node, list []impl.Mutant, made []impl.Node) impl.Node {
	to := trails(n, nil)
	for end := len(list); end > 0; {
		at := list[end-1].Node
		start := slices.IndexFunc(list, func(m impl.Mutant) bool { return m.Node == at })
		kids := slices.Concat([]impl.Node{to[at].at(n)}, made[start:end])
		n, _ = put(n, to[at], pickOf(start+1, kids...))
		end = start
	}
	return n
}

// secondChosen takes the picks out one by one, the last first.
func secondChosen(w impl.Node, selector int) impl.Node {
	for _, to := range slices.Backward(trails(w, nil)) {
		n := to.at(w)
		if n.Kind != impl.NdPick {
			continue
		}
		kid := n.Kids[0]
		for i, other := range n.Kids[1:] {
			if n.N+i == selector {
				kid = other
			}
		}
		w, _ = put(w, to, kid)
	}
	return w
}

// secondPicks asks each pick alone: by what is on the way to it, and by all that are ahead of it. It is below 0 if the tree is not woven.
func secondPicks(w impl.Node) int {
	all, to := inOrder(w), trails(w, nil)
	if len(all) > impl.MaxWoven {
		return -1
	}
	numbers := 0
	for at, n := range all {
		if n.Kind != impl.NdPick {
			continue
		}
		if n.Name != "" || len(n.Kids) < 2 || n.N != numbers+1 {
			return -1
		}
		numbers += len(n.Kids) - 1
		for i, place := range to[at] {
			direct := i == len(to[at])-1
			if to[at][:i].at(w).Kind == impl.NdPick && (place > 0 || direct) {
				return -1
			}
		}
	}
	if numbers > impl.MaxMutants || !impl.TreeOK(secondChosen(w, 0)) {
		return -1
	}
	return numbers
}

// wantSecondWeave holds a tree that checks, woven, against its second way; the code is Weave's.
func wantSecondWeave(t *testing.T, n impl.Node) (w impl.Node, code int) {
	t.Helper()
	list, made := secondMutants(n)
	want := secondWoven(n, list, made)
	w, code = impl.Weave(n)
	if len(list) > impl.MaxMutants || len(inOrder(want)) > impl.MaxWoven {
		if code != impl.ErrMany || !isZeroNode(w) {
			t.Fatalf("%d mutants of %.2000s\nare woven as %d nodes with code %d", len(list), show(n), impl.Size(w), code)
		}
		return w, code
	}
	if code != impl.OK || !alike(w, want) {
		t.Fatalf("%.2000s\nis woven with code %d as\n%.2000s, not\n%.2000s", show(n), code, show(w), show(want))
	}
	return w, code
}

// wrapped has one function's statements within so many ifs, each of which has all of them in two mutants.
func wrapped(n impl.Node, ifs int, draw *rand.Rand) impl.Node {
	n = emptyAsNil(n)
	kids := n.Kids[draw.Intn(len(n.Kids))].Kids
	body := &kids[len(kids)-1]
	for range ifs {
		*body = blockOf(node(impl.NdIf, numbered(impl.NdBool, 1), *body, blockOf(node(impl.NdPanic, whole(0)))))
	}
	return n
}

// grownWide makes some trees so that they have about as many mutants, or nodes when they are woven, as can be.
func grownWide(n impl.Node, draw *rand.Rand) impl.Node {
	switch draw.Intn(6) {
	case 0:
		n = wrapped(n, draw.Intn(30), draw)
	case 1:
		n = padded(n, impl.MaxNodes-draw.Intn(200), node(impl.NdPanic, whole(7)))
	case 2:
		n = padded(n, impl.MaxNodes-draw.Intn(2), blockOf())
	}
	if impl.TreeOK(n) {
		return n
	}
	return fileOf() // it was wrapped too often
}

func TestWovenTreesAreThoseOfTheSecondWay(t *testing.T) {
	codes, great := map[int]int{}, 0
	look := func(n impl.Node, draw *rand.Rand) {
		n = grownWide(n, draw)
		w, code := wantSecondWeave(t, n)
		codes[code]++
		if code != impl.OK {
			return
		}
		count, _ := impl.Picks(w)
		if list, _ := impl.Mutants(n); count != len(list) || count != secondPicks(w) {
			t.Fatalf("%.2000s\nhas %d numbers", show(w), count)
		}
		if impl.Size(w) > impl.MaxWoven/2 {
			great++
		}
		selector := draw.Intn(count + 1)
		if got, code := impl.Choose(w, selector); code != impl.OK || !alike(got, secondChosen(w, selector)) {
			t.Fatalf("%.2000s\nchosen by %d is %.2000s with code %d", show(w), selector, show(got), code)
		}
	}
	eachTyped(t, 51, 300, look)
	eachSketch(t, 52, 120, func(n impl.Node, _ string, draw *rand.Rand) { look(n, draw) })
	eachPlay(t, 53, 120, func(n impl.Node, _ string, draw *rand.Rand) { look(n, draw) })
	t.Log("trees by code:", codes, "and great ones:", great)
	if codes[impl.OK] < 300 || codes[impl.ErrMany] < 40 || great < 10 {
		t.Error("trees by code:", codes, "and great ones:", great)
	}
}

// picksOf are the places of all picks in a tree, ahead of their kids.
func picksOf(n *impl.Node) []*impl.Node {
	var list []*impl.Node
	if n.Kind == impl.NdPick {
		list = append(list, n)
	}
	for i := range n.Kids {
		list = append(list, picksOf(&n.Kids[i])...)
	}
	return list
}

// renumber gives all picks the numbers that are due.
func renumber(w *impl.Node) {
	next := 1
	for _, pick := range picksOf(w) {
		pick.N = next
		next += max(0, len(pick.Kids)-1)
	}
}

// drawnNode is any node within a tree, itself too.
func drawnNode(n *impl.Node, draw *rand.Rand) *impl.Node {
	for len(n.Kids) > 0 && draw.Intn(5) > 0 {
		n = &n.Kids[draw.Intn(len(n.Kids))]
	}
	return n
}

// twist changes a woven tree by one thing that picks hang on.
func twist(w *impl.Node, draw *rand.Rand) {
	picks := picksOf(w)
	if len(picks) == 0 {
		spoil(w, draw)
		return
	}
	pick := picks[draw.Intn(len(picks))]
	kids := &pick.Kids
	switch draw.Intn(9) {
	case 0:
		pick.N += draw.Intn(5) - 2
	case 1:
		*kids = (*kids)[:draw.Intn(len(*kids)+1)]
	case 2:
		*kids = append(slices.Clip(*kids), plainOf(draw.Intn(impl.NdPick)))
	case 3:
		pick.Name = someNames[draw.Intn(len(someNames))]
	case 4:
		spoil(drawnNode(pick, draw), draw)
	case 5:
		*pick = pickOf(pick.N, *pick, plainOf(draw.Intn(impl.NdPick)))
	case 6:
		if len(*kids) > 1 {
			(*kids)[1+draw.Intn(len(*kids)-1)] = emptyAsNil(*drawnNode(w, draw))
		}
	default:
		n := drawnNode(w, draw)
		*n = pickOf(pick.N, *n, plainOf(draw.Intn(impl.NdPick)))
	}
	if draw.Intn(2) == 0 {
		renumber(w)
	}
}

// Woven trees of which some things were changed are woven just where all that is asked for still holds.
func TestAnyTreeIsWovenOrNot(t *testing.T) {
	found := map[bool]int{}
	codes := map[int]int{}
	eachTyped(t, 54, 3000, func(n impl.Node, draw *rand.Rand) {
		if impl.Size(n) > 120 {
			return
		}
		w, code := impl.Weave(n)
		if code != impl.OK {
			return
		}
		names, _ := impl.TestsOf(n)
		names = append(names, "f0")
		w = emptyAsNil(w)
		for range 1 + draw.Intn(3) {
			twist(&w, draw)
			w = emptyAsNil(w) // what stands twice would be changed twice
		}
		if draw.Intn(2) == 0 {
			renumber(&w)
		}
		want := secondPicks(w)
		found[want >= 0]++
		wantPicks(t, w, "a tree that was changed", want)
		if want < 0 {
			return
		}
		for range 4 {
			selector := draw.Intn(want + 1)
			tree := secondChosen(w, selector)
			got, code := impl.Choose(w, selector)
			if code != impl.OK || !alike(got, tree) {
				t.Fatalf("a tree that was changed, chosen by %d, is another one, or has code %d", selector, code)
			}
			test, script, steps := names[draw.Intn(len(names))], drawnScript(draw), draw.Intn(80)
			run, code := impl.RunWoven(w, selector, test, script, steps)
			wantRun, wantCode := impl.RunTest(tree, test, script, steps)
			if codes[code]++; code != wantCode || !sameRun(run, wantRun) {
				t.Fatalf("a tree that was changed, chosen by %d and run, is %v with code %d, not %v with code %d", selector, run, code, wantRun, wantCode)
			}
		}
	})
	t.Log("trees that are woven, and not:", found, "runs by code:", codes)
	if found[true] < 400 || found[false] < 400 || codes[impl.OK] < 40 || codes[impl.ErrBad] < 20 || codes[impl.ErrName] < 40 {
		t.Error("trees that are woven, and not:", found, "runs by code:", codes)
	}
}
