package tests

import (
	"math"
	"math/rand"
	"slices"
	"testing"

	"loop.example/g00135/impl"
)

// wantDiffer asks for a place, or a code, both ways round: what is ahead of the place is the same in both trees.
func wantDiffer(t *testing.T, a, b impl.Node, at, code int) {
	t.Helper()
	for _, pair := range [][2]impl.Node{{a, b}, {b, a}} {
		if place, got := impl.Differ(pair[0], pair[1]); place != at || got != code {
			t.Errorf("%.300s and %.300s differ at %d with code %d, not at %d with %d", show(pair[0]), show(pair[1]), place, got, at, code)
		}
	}
}

// wantDifferBodies asks for the nth node of a Kind in the first of two functions.
func wantDifferBodies(t *testing.T, a, b string, kind, nth int) {
	t.Helper()
	first, second := treeOf(t, "func g() {}\nfunc f(i int) {"+a+"}\nfunc h() {}"), treeOf(t, "func g() {}\nfunc f(i int) {"+b+"}\nfunc h() {}")
	wantDiffer(t, first, second, placeOf(t, first, kind, nth), impl.OK)
}

func TestWhereTreesDiffer(t *testing.T) {
	// In one thing of one node.
	wantDifferBodies(t, "print(1)", "print(2)", impl.NdInt, 1)
	wantDifferBodies(t, "print(1)", "panic(1)", impl.NdPrint, 1)
	wantDifferBodies(t, "print(1)", "print(true)", impl.NdInt, 1)
	wantDifferBodies(t, "print(a)", "print(b)", impl.NdVar, 1)
	wantDifferBodies(t, "print(a + b)", "print(a - b)", impl.NdBinary, 1)
	wantDifferBodies(t, "i++", "i--", impl.NdStep, 1)
	wantDifferBodies(t, "x := 1", "y := 1", impl.NdDefine, 1)
	wantDifferBodies(t, "x := make(chan int)", "x := make(chan int, 1)", impl.NdMake, 1)
	wantDifferBodies(t, "f(1, 2)", "f(1)", impl.NdCall, 1)
	wantDifferBodies(t, "{ print(1); print(2) }", "{ print(1) }", impl.NdBlock, 3)
	wantDifferBodies(t, "{ print(1); print(2) }", "{ print(1); print(3) }", impl.NdInt, 2)
	wantDifferBodies(t, "return", "return 1", impl.NdReturn, 1)
	wantDifferBodies(t, "for {}", "for b {}", impl.NdFor, 1)
	wantDifferBodies(t, "if b {}", "if b {} else {}", impl.NdIf, 1)
	wantDifferBodies(t, "select { case <-c: }", "select { case x := <-c: }", impl.NdCase, 1)
	wantDifferBodies(t, "select { case <-c: }", "select { case c <- 1: }", impl.NdCase, 1)
	wantDifferBodies(t, "go f()", "f()", impl.NdGo, 1)
	wantDifferBodies(t, "print(-i)", "print(-(-i))", impl.NdVar, 1)
	wantDifferBodies(t, "print(!!i)", "print(!i)", impl.NdUnary, 2)
	// In several kids of one node, whatever they differ in.
	wantDifferBodies(t, "print(1 + 2)", "print(2 + 1)", impl.NdBinary, 1)
	wantDifferBodies(t, "f(1, 2, 3, 4)", "f(0, 2, 3, 5)", impl.NdCall, 1)
	wantDifferBodies(t, "if b { x() } else { y() }", "if b { y() } else { x() }", impl.NdIf, 1)
	wantDifferBodies(t, "{ print(1); print(2); print(3) }", "{ print(2); print(2); print(2) }", impl.NdBlock, 3)
	wantDifferBodies(t, "a <- 1", "b <- 2", impl.NdSend, 1)
	// In nodes far apart: the node that holds them both.
	wantDifferBodies(t, "{ x(); if b { print(1) }; y(); for { f(g(2)) } }", "{ x(); if b { print(2) }; y(); for { f(g(1)) } }", impl.NdBlock, 3)
	wantDifferBodies(t, "print(0); if f(1 + 2) { print(3) }", "print(0); if f(1 + 3) { print(4) }", impl.NdIf, 1)
	wantDifferBodies(t, "print(-(1 * 2) - -(3 / 4))", "print(-(1 * 5) - -(5 / 4))", impl.NdBinary, 1)
	// A node that differs itself, and in its kids too.
	wantDifferBodies(t, "print(1 + 2)", "print(1 - 3)", impl.NdBinary, 1)
	wantDifferBodies(t, "x(1)", "y(2)", impl.NdCall, 1)
}

func TestWhereFilesDiffer(t *testing.T) {
	both := func(a, b string, at int) {
		t.Helper()
		wantDiffer(t, treeOf(t, a), treeOf(t, b), at, impl.OK)
	}
	both("", "func f() {}", 0)
	both("func f() {}\nfunc g() {}", "func f() {}", 0)
	both("func f() {}\nfunc g() {}", "func g() {}\nfunc f() {}", 0)
	both("func f() { print(1) }\nfunc g() {}\nfunc h() { print(2) }", "func f() { print(2) }\nfunc g() {}\nfunc h() { print(3) }", 0)
	both("func f() {}\nfunc g() {}", "func h() {}\nfunc g() {}", 1)
	both("func f() {}\nfunc g() {}", "func f() {}\nfunc h() {}", 3)
	both("func f() int {}", "func f() bool {}", 1)
	both("func f() {}", "func f(a int) {}", 1)
	both("func f(a int, b int) {}", "func f(a int, b bool) {}", 3)
	both("func f(a int, b int) {}", "func f(b int, a int) {}", 1)
	both("func f(a int) {}", "func f(a int) { return }", 3)
	both("func f() {}\nfunc g() { return }", "func f() {}\nfunc g() { return; return }", 4)
}

func TestTreesThatAreTheSame(t *testing.T) {
	for _, text := range []string{"", wholeText, runText, "func f() {}", "func f() { print(x) }"} {
		n := treeOf(t, text)
		wantDiffer(t, n, treeOf(t, text), 0, impl.ErrNone)
		wantDiffer(t, n, n, 0, impl.ErrNone)
	}
	// An empty list and nil are the same value, and what is behind the end of a list has no part in it.
	n := fileOf(node(impl.NdReturn), node(impl.NdSelect))
	other := withRoom(n)
	other.Kids[0].Kids[0].Kids[0].Kids = []impl.Node{}
	wantDiffer(t, n, other, 0, impl.ErrNone)
}

func TestDifferOfTreesThatAreNotRight(t *testing.T) {
	right := treeOf(t, "func f() { print(1) }")
	for _, wrong := range []impl.Node{{}, node(impl.NdBlock), fileOf(node(impl.NdPrint)), fileOf(node(impl.NdPrint, whole(-1))), fileOf(node(impl.NdPick, whole(1))), wideTree(598), deepTree(9000)} {
		wantDiffer(t, right, wrong, 0, impl.ErrBad)
		wantDiffer(t, wrong, wrong, 0, impl.ErrBad)
		wantDiffer(t, wrong, impl.Node{Kind: -1}, 0, impl.ErrBad)
	}
	// Trees that do not check are right none the less; and those with as many nodes as can be.
	wantDifferBodies(t, "print(x); break", "print(y); break", impl.NdVar, 1)
	wantDiffer(t, wideTree(597), wideTree(596), 2, impl.OK)
	wantDiffer(t, deepTree(595), deepTree(594), 598, impl.OK)
	inner, other := deepTree(595), deepTree(595)
	node := &other
	for len(node.Kids) > 0 {
		node = &node.Kids[0]
	}
	node.N = 2
	wantDiffer(t, inner, other, 599, impl.OK)
}

func TestNodesByTheirNumbers(t *testing.T) {
	for _, text := range []string{"", "func f() {}", wholeText, runText, "func f() { print(x + 1) }"} {
		n := treeOf(t, text)
		all := inOrder(n)
		for at, want := range all {
			if got, code := impl.NodeAt(n, at); code != impl.OK || show(got) != show(want) {
				t.Errorf("node %d is %s with code %d, not %s", at, show(got), code, show(want))
			}
		}
		for _, at := range []int{len(all), len(all) + 1, -1, -2, math.MinInt, math.MaxInt, 1 << 32, impl.MaxNodes} {
			if got, code := impl.NodeAt(n, at); code != impl.ErrRange || !isZeroNode(got) {
				t.Errorf("node %d of %d is %s with code %d", at, len(all), show(got), code)
			}
		}
	}
	for _, n := range []impl.Node{wideTree(597), deepTree(595), leftTree(297)} {
		all := inOrder(n)
		for _, at := range []int{0, 1, 300, len(all) - 2, len(all) - 1} {
			if got, code := impl.NodeAt(n, at); code != impl.OK || show(got) != show(all[at]) {
				t.Errorf("node %d of a great tree is %.200s with code %d", at, show(got), code)
			}
		}
	}
	for _, wrong := range []impl.Node{{}, node(impl.NdBlock, node(impl.NdReturn)), fileOf(node(impl.NdPrint)), wideTree(598), deepTree(9000)} {
		for _, at := range []int{0, 1, 2, -1, math.MinInt, math.MaxInt} {
			if got, code := impl.NodeAt(wrong, at); code != impl.ErrBad || !isZeroNode(got) {
				t.Errorf("node %d of a tree that is not right is %.200s with code %d", at, show(got), code)
			}
		}
	}
}

// A trail leads from the file to a node: a kid's place each.
type trail []int

func trails(n impl.Node, to trail) []trail {
	list := []trail{to}
	for i, kid := range n.Kids {
		list = append(list, trails(kid, append(slices.Clip(to), i))...)
	}
	return list
}

// put copies a tree, with another node where a trail leads, if that is there.
func put(n impl.Node, to trail, other impl.Node) (impl.Node, bool) {
	if len(to) == 0 {
		return other, true
	}
	if to[0] >= len(n.Kids) {
		return n, false
	}
	kid, there := put(n.Kids[to[0]], to[1:], other)
	n.Kids = slices.Clone(n.Kids)
	n.Kids[to[0]] = kid
	return n, there
}

// secondDiffer tries all nodes: both trees must be the same when it is taken out of them.
func secondDiffer(a, b impl.Node) (at, code int) {
	if show(a) == show(b) {
		return 0, impl.ErrNone
	}
	hole, farthest := node(impl.NdPick), -1
	for number, to := range trails(a, nil) {
		first, _ := put(a, to, hole)
		second, there := put(b, to, hole)
		if there && len(to) > farthest && show(first) == show(second) {
			at, farthest = number, len(to)
		}
	}
	return at, impl.OK
}

// transplanted has a node in another one's place: of some that are drawn the first that leaves the tree right.
func transplanted(n impl.Node, draw *rand.Rand) impl.Node {
	to, all := trails(n, nil), inOrder(n)
	for range 20 {
		if other, _ := put(n, to[draw.Intn(len(to))], all[draw.Intn(len(all))]); impl.TreeOK(other) {
			return emptyAsNil(other)
		}
	}
	return n
}

// Trees by chance, and the same with some things changed, differ where it is found by trying.
func TestTreesByChanceDifferWhereTheyDo(t *testing.T) {
	draw := rand.New(rand.NewSource(41))
	found := map[int]int{}
	for range 6000 {
		g := &grower{draw: draw, left: 5 + draw.Intn(25)}
		a := g.file(2 + draw.Intn(4))
		b := emptyAsNil(a)
		for range draw.Intn(3) {
			if draw.Intn(3) == 0 {
				spoil(&b, draw)
			} else {
				b = transplanted(b, draw)
			}
		}
		at, code := 0, impl.ErrBad
		if impl.TreeOK(b) {
			at, code = secondDiffer(a, b)
		}
		wantDiffer(t, a, b, at, code)
		if found[code]++; code == impl.OK && at > 0 {
			found[-1]++
		}
	}
	if found[impl.OK] < 500 || found[impl.ErrBad] < 500 || found[impl.ErrNone] < 500 || found[-1] < 300 {
		t.Error("trees by code, and those that differ below the file:", found)
	}
}
