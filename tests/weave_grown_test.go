package tests

import (
	"math/rand"
	"testing"

	"loop.example/g00135/impl"
)

// wantWovenRuns asks that some mutants, chosen and run, do what they do: by both ways to run a test.
func wantWovenRuns(t *testing.T, n, w impl.Node, draw *rand.Rand, ends map[int]int) {
	t.Helper()
	list, _ := impl.Mutants(n)
	for range 6 {
		selector := draw.Intn(len(list) + 1)
		tree := n
		if selector > 0 {
			tree, _ = impl.Mutate(n, list[selector-1])
		}
		script, steps := drawnScript(draw), 1+draw.Intn(200)
		got, code := impl.RunWoven(w, selector, "TestA", script, steps)
		if impl.Size(tree) > impl.MaxNodes {
			if code != impl.ErrBad || !sameRun(got, impl.Run{}) {
				t.Fatalf("a mutant with too many nodes is run with code %d as %v", code, got)
			}
			ends[0]++
			continue
		}
		if want := secondRun(tree, "TestA", script, steps); code != impl.OK || !sameRun(got, want) {
			t.Fatalf("%.2000s\nchosen by %d and run by %v and %d steps is %v with code %d, not %v", show(n), selector, script, steps, got, code, want)
		}
		again, code := impl.RunWoven(w, selector, "TestA", got.Picks, steps)
		if code != impl.OK || !sameRun(got, again) {
			t.Fatalf("%.2000s\nchosen by %d and run by %v is not repeated by its picks", show(n), selector, script)
		}
		ends[got.Kind]++
	}
}

// Promise 8.
func TestTheWovenProgramIsTheProgramAndAllItsMutants(t *testing.T) {
	ends, codes := map[int]int{}, map[int]int{}
	look := func(n impl.Node, _ string, draw *rand.Rand) {
		if n = grownWide(n, draw); len(n.Kids) == 1 {
			return
		}
		list, many := impl.Mutants(n)
		w, code := impl.Weave(n)
		if codes[code]++; code != impl.OK {
			if code != impl.ErrMany || !isZeroNode(w) {
				t.Fatalf("%.2000s\nis woven with code %d", show(n), code)
			}
			return
		}
		if many != impl.OK || !impl.WovenOK(w) {
			t.Fatalf("%.2000s\nhas the code %d of Mutants, and is woven as %.2000s", show(n), many, show(w))
		}
		if len(list) < 40 || draw.Intn(10) == 0 {
			wantAllChosen(t, n, w)
		}
		wantWovenRuns(t, n, w, draw, ends)
	}
	eachPlay(t, 55, 350, look)
	eachSketch(t, 56, 350, look)
	t.Log("trees by code:", codes, "runs by end:", ends)
	if codes[impl.OK] < 500 || codes[impl.ErrMany] < 10 {
		t.Error("trees by code:", codes)
	}
	for _, end := range []int{0, impl.OtDone, impl.OtPanic, impl.OtDeadlock, impl.OtBudget} {
		if ends[end] < 10 {
			t.Error("runs by end:", ends)
		}
	}
}
