package tests

import (
	"cmp"
	"math/rand"
	"slices"
	"strings"
	"testing"

	"loop.example/g00135/impl"
)

// wantPromised asks of one mutant all that is promised of it; the code is that with which its text is parsed.
func wantPromised(t *testing.T, n impl.Node, m impl.Mutant) int {
	t.Helper()
	made, code := impl.Mutate(n, m)
	if code != impl.OK {
		t.Fatalf("%v of %.2000s\nhas code %d", m, show(n), code)
	}
	if impl.Size(made) > impl.MaxNodes {
		for name, code := range codesOf(n, made) {
			if code != impl.ErrBad {
				t.Fatalf("%s of a mutant with too many nodes has code %d", name, code)
			}
		}
		return impl.ErrMany
	}
	wantWithinNode(t, n, made, m)
	if code := wantWatched(t, made); code != impl.OK {
		t.Fatalf("%v of %.2000s\ndoes not check: code %d", m, show(n), code)
	}
	text, code := impl.Print(made)
	if code != impl.OK {
		t.Fatalf("%v of %.2000s\nis printed with code %d", m, show(n), code)
	}
	return wantAgain(t, made, text)
}

// wantWithinNode asks that a mutant differs from its tree, and within its node alone.
func wantWithinNode(t *testing.T, n, made impl.Node, m impl.Mutant) {
	t.Helper()
	node, nodeCode := impl.NodeAt(n, m.Node)
	at, code := impl.Differ(n, made)
	if code != impl.OK || nodeCode != impl.OK || at < m.Node || at >= m.Node+impl.Size(node) {
		t.Fatalf("%v of %.2000s\ndiffers at %d with code %d", m, show(n), at, code)
	}
	to := trails(n, nil)[m.Node]
	first, _ := put(n, to, blockOf())
	if second, there := put(made, to, blockOf()); !there || show(first) != show(second) {
		t.Fatalf("%v of %.2000s\nchanges what is outside of its node", m, show(n))
	}
}

// padded has so many nodes, or not quite, by a statement over and over ahead of its first function's own ones.
func padded(n impl.Node, size int, statement impl.Node) impl.Node {
	n = emptyAsNil(n)
	kids := n.Kids[0].Kids
	body := &kids[len(kids)-1]
	count := max(0, size-impl.Size(n)) / impl.Size(statement)
	body.Kids = slices.Concat(slices.Repeat([]impl.Node{statement}, count), body.Kids)
	return n
}

// Promise 7.
func TestMutantsAreWhatIsPromised(t *testing.T) {
	codes := map[int]int{}
	look := func(n impl.Node, draw *rand.Rand) {
		switch draw.Intn(6) {
		case 0:
			n = padded(n, impl.MaxNodes-draw.Intn(2), blockOf())
		case 1:
			n = emptyAsNil(n)
			sink(&n.Kids[draw.Intn(len(n.Kids))], 40+draw.Intn(18))
		}
		if !impl.TreeOK(n) {
			return // it was sunk by too many blocks
		}
		list, code := impl.Mutants(n)
		if code != impl.OK && code != impl.ErrMany {
			t.Fatalf("the mutants of %.2000s\nhave code %d", show(n), code)
		}
		for range min(len(list), 6) {
			codes[wantPromised(t, n, list[draw.Intn(len(list))])]++
		}
	}
	eachTyped(t, 46, 800, look)
	eachSketch(t, 47, 200, func(n impl.Node, _ string, draw *rand.Rand) { look(n, draw) })
	eachPlay(t, 48, 200, func(n impl.Node, _ string, draw *rand.Rand) { look(n, draw) })
	t.Log("mutants by code:", codes)
	for _, code := range []int{impl.OK, impl.ErrMany, impl.ErrDeep} {
		if codes[code] < 30 {
			t.Errorf("only %d mutants are parsed with code %d", codes[code], code)
		}
	}
}

// All mutants of programs that have all that there is, not some by chance.
func TestAllMutantsOfWholePrograms(t *testing.T) {
	kinds := map[int]int{}
	for _, text := range []string{wholeText, runText} {
		n := treeOf(t, text)
		list, code := impl.Mutants(n)
		if code != impl.OK {
			t.Fatalf("code %d of %s", code, text)
		}
		for _, m := range list {
			kinds[m.Kind]++
			if code := wantPromised(t, n, m); code != impl.OK {
				t.Errorf("%v is parsed with code %d", m, code)
			}
		}
		rising := func(a, b impl.Mutant) int {
			return cmp.Or(cmp.Compare(a.Node, b.Node), cmp.Compare(a.Kind, b.Kind), cmp.Compare(a.Alt, b.Alt))
		}
		if !slices.IsSortedFunc(list, rising) || len(slices.Compact(slices.Clone(list))) != len(list) {
			t.Errorf("the mutants do not rise: %v", list)
		}
	}
	if len(kinds) != impl.MuCase {
		t.Errorf("some Kinds are missing: %v", kinds)
	}
}

// A mutant may stand deeper than its tree: so many blocks may be around both, and one more around the tree alone.
func TestMutantsThatStandTooDeep(t *testing.T) {
	for _, c := range []struct {
		statement             string
		kind, of, alt, blocks int
	}{{"i++", impl.MuDrop, impl.NdStep, 0, 58}, {"if !b {}", impl.MuNot, impl.NdIf, 0, 56}, {"for b == b {}", impl.MuNot, impl.NdFor, 0, 57}, {"x := i + i + i", impl.MuOp, impl.NdBinary, 2, 58}} {
		for blocks, want := range map[int]int{0: impl.OK, c.blocks: impl.OK, c.blocks + 1: impl.ErrDeep} {
			n := treeOf(t, "func f(i int, b bool) {"+strings.Repeat("{", blocks)+c.statement+strings.Repeat("}", blocks)+"}")
			m := impl.Mutant{Kind: c.kind, Node: placeOf(t, n, c.of, 1), Alt: c.alt}
			if code := wantPromised(t, n, m); code != want {
				t.Errorf("%v of %s in %d blocks is parsed with code %d, not %d", m, c.statement, blocks, code, want)
			}
		}
	}
}
