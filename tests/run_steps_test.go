package tests

import (
	"reflect"
	"slices"
	"strconv"
	"testing"

	"loop.example/g00135/impl"
)

// wantSteps asks how many steps a run needs to have an end of its own.
func wantSteps(t *testing.T, text string, script []int, need int) {
	t.Helper()
	whole := ran(t, text, script, impl.MaxSteps)
	for steps := 1; steps <= need+3; steps++ {
		r := ran(t, text, script, steps)
		if enough := steps >= need; enough != (r.Kind != impl.OtBudget) {
			t.Errorf("%s\nby %d steps ends %d, where it should need %d", text, steps, r.Kind, need)
			return
		} else if enough && !reflect.DeepEqual(r, whole) {
			t.Errorf("%s\nby %d steps is %v, by more %v", text, steps, r, whole)
		}
		wantBeginning(t, text, r, whole)
	}
}

// wantBeginning asks that a run that had not steps enough is a beginning of the whole one.
func wantBeginning(t *testing.T, text string, r, whole impl.Run) {
	t.Helper()
	if r.Kind != impl.OtBudget {
		return
	}
	moves, prints := len(r.Picks), len(r.Trace)
	if r.Code != 0 || r.Value != 0 || moves > len(whole.Picks) || prints > len(whole.Trace) ||
		!slices.Equal(r.Picks, whole.Picks[:moves]) || !slices.Equal(r.Widths, whole.Widths[:moves]) || !slices.Equal(r.Trace, whole.Trace[:prints]) {
		t.Errorf("%s\nbegins as %v, but goes on as %v", text, r, whole)
	}
}

func TestWhatTakesAStep(t *testing.T) {
	for _, c := range []struct {
		body string
		need int
	}{
		// The test's end alone: neither the test's own call nor what is quiet takes one.
		{"", 1},
		{"x := 1; x = x + 2 * 3; x++; if x > 3 { x = 1 } else { x = 2 }; c := make(chan int, 3); c = c; { x := 2; x-- }", 1},
		{"for false {}", 1},
		{"for { break }", 1},
		{"panic(1)", 1},
		{"x := 1 / 0; print(x)", 1},
		// Each move.
		{"print(1)", 2},
		{"print(1); print(2); print(true)", 4},
		{"c := make(chan int); close(c)", 2},
		{"c := make(chan int); close(c); close(c)", 3},
		{"c := make(chan int, 1); c <- 1; <-c", 3},
		{"c := make(chan int, 1); close(c); c <- 1", 3},
		{"select { default: }", 2},
		{"go idle()", 2},
		{"go sum(1, 2)", 2},
		// Each call, and each deferred one, not that which go starts.
		{"idle()", 2},
		{"idle(); idle()", 3},
		{"x := sum(sum(1, 2), sum(3, 4)); x++", 4},
		{"say(1)", 3},
		{"defer idle()", 2},
		{"defer idle(); defer idle(); idle()", 4},
		{"defer show(1); panic(2)", 3},
		{"defer idle(); defer idle(); panic(2)", 3},
		{"fail(1)", 2},
		{"if false { defer idle(); idle() }", 1},
		{"if false && sayIf(1, true) { print(2) }", 1},
		// Each time that a for begins anew, behind its block and by continue.
		{"i := 0; for i < 1 { i++ }", 2},
		{"i := 0; for i < 5 { i++ }", 6},
		{"i := 0; for i < 5 { i++; continue }", 6},
		{"i := 0; for i < 5 { i++; if i == 3 { continue }; i++ }", 4},
		{"i := 0; for { i++; if i == 4 { break } }", 4},
		{"i := 0; for { i++; if i < 4 { continue }; break }", 4},
		{"i := 0; for i < 2 { j := 0; for j < 3 { j++ }; i++ }", 9},
		{"i := 0; for i < 3 { i++; select { default: continue } }", 7},
		{"i := 0; for i < 3 { i++; idle() }", 7},
		{"i := 0; for sum(i, 0) < 3 { i++ }", 8},
	} {
		wantSteps(t, inTest(c.body), nil, c.need)
	}
}

func TestWhatTakesAStepOfSeveralGoroutines(t *testing.T) {
	// Two that meet take one step for their move.
	wantSteps(t, inTest("c := make(chan int); go put(c, 1); <-c"), nil, 3)
	wantSteps(t, inTest("c := make(chan int); go put(c, 1); print(<-c)"), nil, 4)
	// What a goroutine does quietly counts as soon as it can go on.
	wantSteps(t, inTest("go quiet(5)")+"func quiet(n int) { for n > 0 { n-- } }", nil, 7)
	wantSteps(t, inTest("c := make(chan int); go put(c, 1); x := <-c; quiet(x)")+"func quiet(n int) { for n > 0 { n-- } }", nil, 5)
	wantSteps(t, inTest("go ends()")+"func ends() { defer idle(); sum(1, 2) }", nil, 4)
	// Ends that are picked ahead of others leave their steps.
	wantSteps(t, inTest("go show(1)"), nil, 2)
	wantSteps(t, inTest("go show(1)"), []int{0, 1}, 3)
}

func TestRunsWithoutStepsLeft(t *testing.T) {
	// One that has neither a move nor a step left had not steps enough.
	wantSteps(t, inTest("stuck()"), nil, 2)
	wantSteps(t, inTest("select {}"), nil, 1)
	wantSteps(t, inTest("print(1); select {}"), nil, 2)
	wantSteps(t, inTest("c := make(chan int); go put(c, 1); go put(c, 2); <-c; <-c; <-c"), nil, 5)
	wantSteps(t, inTest("i := 0; for i < 4 { i++ }; select {}"), nil, 5)
	// Calls that are one too many take their step as well.
	wantSteps(t, "func TestA() { TestA() }", nil, impl.MaxCalls+1)
	for _, body := range []string{"for {}", "for { continue }", "for { idle() }", "for { print(7) }", "for { select { default: } }", "c := make(chan int); for { go put(c, 1); <-c }"} {
		for _, steps := range []int{1, 2, 7, impl.MaxSteps} {
			if r := ran(t, inTest(body), nil, steps); r.Kind != impl.OtBudget || r.Code != 0 || r.Value != 0 {
				t.Errorf("%s by %d steps ends %d %d %d", body, steps, r.Kind, r.Code, r.Value)
			}
		}
	}
}

// A quiet step that is the last one ends the run, even where nothing but the test's end would be left.
func TestTheLastStepIsUsedUpQuietly(t *testing.T) {
	for _, body := range []string{"idle()", "defer idle()", "for { if yes { break }; yes = true }", "fail(1)", "idle(); panic(1)"} {
		text := "func TestA() { yes := false; yes = yes; " + body + " }\nfunc idle() {}\nfunc fail(a int) { panic(a) }"
		if r := ran(t, text, nil, 1); r.Kind != impl.OtBudget || len(r.Picks) != 0 {
			t.Errorf("%s by one step ends %d with %v", body, r.Kind, r.Picks)
		}
		wantSteps(t, text, nil, 2)
	}
	// Whoever uses it up: here goroutine 1, while goroutine 0 is at its end.
	text := inTest("go loops()") + "func loops() { for {} }"
	if r := ran(t, text, nil, impl.MaxSteps); r.Kind != impl.OtBudget || len(r.Picks) != 1 {
		t.Errorf("a goroutine that goes on for ever ends %d with %v", r.Kind, r.Picks)
	}
}

func TestAllOfTheStepsCanBeUsed(t *testing.T) {
	for _, rest := range []int{0, 1, 2} {
		prints := impl.MaxSteps/2 - 1 + rest
		text := "func TestA() { i := 0; for i < " + strconv.Itoa(prints) + " { print(i); i++ }; print(9) }"
		r := ran(t, text, nil, impl.MaxSteps)
		if ends := 2*prints+2 <= impl.MaxSteps; ends != (r.Kind == impl.OtDone) || len(r.Trace) != min(prints+1, impl.MaxSteps/2) {
			t.Errorf("%d prints in a for end %d, with %d of them", prints, r.Kind, len(r.Trace))
		}
	}
}

func TestListsOfARunAreNewMemory(t *testing.T) {
	n := treeOf(t, inTest("c := make(chan int); go put(c, 1); go put(c, 2); print(<-c); print(<-c); print(3)"))
	script := []int{0, 1, 1, 0, 0, 0, 0, 0, 0, 0, 0, 0}
	given := slices.Clone(script)
	first, _ := impl.RunTest(n, "TestA", script, 100)
	second, _ := impl.RunTest(n, "TestA", script, 100)
	kept := impl.Run{Kind: first.Kind, Trace: slices.Clone(first.Trace), Picks: slices.Clone(first.Picks), Widths: slices.Clone(first.Widths)}
	for i, list := range [][]int{first.Trace, first.Picks, first.Widths} {
		list = list[:cap(list)]
		for k := range list {
			list[k] = -7 - i
		}
	}
	for i, list := range [][]int{first.Trace, first.Picks, first.Widths} {
		if len(list) == 0 || slices.ContainsFunc(list, func(n int) bool { return n != -7-i }) {
			t.Errorf("list %d shares memory with another one: %v", i, list)
		}
	}
	third, _ := impl.RunTest(n, "TestA", script, 100)
	if !reflect.DeepEqual(second, kept) || !reflect.DeepEqual(third, kept) || !slices.Equal(script, given) {
		t.Errorf("what was written into a run is seen elsewhere: %v %v %v", second, third, script)
	}
}
