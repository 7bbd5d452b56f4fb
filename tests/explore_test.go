package tests

import (
	"math"
	"slices"
	"strconv"
	"strings"
	"testing"

	"loop.example/g00135/impl"
)

type exploring struct {
	name string
	call func(n impl.Node, test string, steps, runs int) (impl.Report, int)
}

var bothWays = []exploring{{"Explore", impl.Explore}, {"Sleep", impl.Sleep}}

func isZeroReport(r impl.Report) bool {
	return len(r.List) == 0 && !r.Exhaustive && r.Runs == 0
}

func wantReportCode(t *testing.T, n impl.Node, test string, steps, runs, want int) {
	t.Helper()
	for _, way := range bothWays {
		r, code := way.call(n, test, steps, runs)
		if code != want {
			t.Errorf("%s of %.30q with %d steps and %d runs has code %d, not %d", way.name, test, steps, runs, code, want)
		}
		if isZeroReport(r) != (code != impl.OK) {
			t.Errorf("%s has %v beside code %d", way.name, r, code)
		}
	}
}

func TestCodesOfAReportInTheirOrder(t *testing.T) {
	bad, untyped, right := node(impl.NdBlock), treeOf(t, "func TestA() { print(x) }"), treeOf(t, inTest("print(1)"))
	long := strings.Repeat("T", impl.MaxText+1)
	for _, steps := range []int{math.MinInt, -1, 0, impl.MaxSteps + 1, math.MaxInt, 1, 5, impl.MaxSteps} {
		for _, runs := range []int{math.MinInt, -1, 0, impl.MaxRuns + 1, math.MaxInt, 1, impl.MaxRuns} {
			wrong := steps < 1 || steps > impl.MaxSteps || runs < 1 || runs > impl.MaxRuns
			for _, test := range []string{"TestA", "show", "TestB", "", long[:impl.MaxText]} {
				wantReportCode(t, bad, test, steps, runs, impl.ErrBad)
				wantReportCode(t, untyped, test, steps, runs, impl.ErrName)
				switch {
				case test != "TestA":
					wantReportCode(t, right, test, steps, runs, impl.ErrName)
				case wrong:
					wantReportCode(t, right, test, steps, runs, impl.ErrRange)
				default:
					wantReportCode(t, right, test, steps, runs, impl.OK)
				}
			}
			for _, n := range []impl.Node{bad, untyped, right, {}} {
				wantReportCode(t, n, long, steps, runs, impl.ErrLong)
			}
		}
	}
}

func TestEachCodeOfCheckIsOneOfAReport(t *testing.T) {
	codes := map[int]int{}
	for _, n := range callTrees() {
		if code, _ := impl.Check(n); code != impl.OK {
			codes[code]++
			wantReportCode(t, n, "TestA", 0, 0, code)
			wantReportCode(t, n, "TestA", 10, 10, code)
		}
	}
	for _, code := range []int{impl.ErrBad, impl.ErrName, impl.ErrTwice, impl.ErrType, impl.ErrCount, impl.ErrResult, impl.ErrPlace} {
		if codes[code] == 0 {
			t.Errorf("no tree has code %d", code)
		}
	}
}

// report is that of a text's TestA.
func report(t *testing.T, way exploring, text string, steps, runs int) impl.Report {
	t.Helper()
	r, code := way.call(treeOf(t, text), "TestA", steps, runs)
	if code != impl.OK {
		t.Fatalf("%s of %s has code %d", way.name, text, code)
	}
	if r.Runs < 1 || r.Runs > runs || len(r.List) > r.Runs {
		t.Errorf("%s of %s by %d runs has %d, and %d observations", way.name, text, runs, r.Runs, len(r.List))
	}
	return r
}

func seen(end [3]int, trace, script []int) impl.Seen {
	return impl.Seen{Kind: end[0], Code: end[1], Value: end[2], Trace: trace, Script: script}
}

var deadlock = [3]int{impl.OtDeadlock}

// wantBoth asks for the whole report of a text's TestA, which is the same with and without sleep.
func wantBoth(t *testing.T, text string, steps, runs int, want impl.Report) {
	t.Helper()
	for _, way := range bothWays {
		if r := report(t, way, text, steps, runs); !sameReport(r, want) {
			t.Errorf("%s of\n%s\nby %d steps and %d runs is\n%v, not\n%v", way.name, text, steps, runs, r, want)
		}
	}
}

// crossed is a test of so many times so many runs, each with an observation of its own: one that sends meets one that receives.
func crossed(sends, receives int) string {
	var text strings.Builder
	text.WriteString("func TestA() {\nc := make(chan int)\ngo other(c)\nselect {\n")
	for i := range sends {
		text.WriteString("case c <- " + strconv.Itoa(100*i) + ":\n")
	}
	text.WriteString("}\nselect {}\n}\nfunc other(c chan int) {\nselect {\n")
	for i := range receives {
		text.WriteString("case v := <-c: print(v + " + strconv.Itoa(i) + ")\n")
	}
	return text.String() + "}\n}\n"
}

func TestAsManyRunsAsAreAskedFor(t *testing.T) {
	for _, sides := range [][2]int{{1, 1}, {2, 3}, {7, 1}, {15, 20}, {7, 43}} {
		text := crossed(sides[0], sides[1])
		all := sides[0] * sides[1]
		var list []impl.Seen
		for i := range all {
			list = append(list, seen(deadlock, []int{100*(i/sides[1]) + i%sides[1]}, []int{0, i, 0}))
		}
		for _, runs := range []int{1, 2, 5, 6, 7, 299, impl.MaxRuns} {
			most := min(runs, all)
			wantBoth(t, text, 100, runs, impl.Report{List: list[:most], Runs: most, Exhaustive: runs >= all})
		}
	}
}

func TestOneRunAlone(t *testing.T) {
	wantBoth(t, "func TestA() {}", 1, 1, impl.Report{List: []impl.Seen{seen(done, nil, []int{0})}, Runs: 1, Exhaustive: true})
	wantBoth(t, "func TestA() { select {} }", 1, 1, impl.Report{List: []impl.Seen{seen(deadlock, nil, nil)}, Runs: 1, Exhaustive: true})
	wantBoth(t, "func TestA() { panic(7) }", 1, 1, impl.Report{List: []impl.Seen{seen(crash(impl.PnUser, 7), nil, []int{0})}, Runs: 1, Exhaustive: true})
	wantBoth(t, "func TestA() { print(5); print(1 / 0) }", 2000, 300, impl.Report{List: []impl.Seen{seen(crash(impl.PnZero, 0), []int{5}, []int{0, 0})}, Runs: 1, Exhaustive: true})
	wantBoth(t, "func TestA() { for {} }", 2000, 300, impl.Report{Runs: 1})
	wantBoth(t, "func TestA() { for {} }", 1, 1, impl.Report{Runs: 1})
}

func TestRunsInTheOrderOfTheirPicks(t *testing.T) {
	// Three prints in any order; of those ahead of them there is one move.
	text := inTest("c := make(chan int); go waits(c, 1); go waits(c, 2); go waits(c, 3); close(c); stuck()") + "func waits(c chan int, a int) { <-c; print(a) }"
	r := report(t, bothWays[0], text, 1000, impl.MaxRuns)
	if !r.Exhaustive || r.Runs != 90 || len(r.List) != 6 {
		t.Errorf("%s\nis %v", text, r)
	}
	var scripts [][]int
	for _, s := range r.List {
		scripts = append(scripts, s.Script)
	}
	if !slices.IsSortedFunc(scripts, slices.Compare) || !slices.Equal(scripts[0], noughts(10)) {
		t.Errorf("%s\nhas the scripts %v", text, scripts)
	}
	for runs := 1; runs < 90; runs++ {
		some := report(t, bothWays[0], text, 1000, runs)
		if some.Exhaustive || some.Runs != runs || !sameReport(impl.Report{List: r.List[:len(some.List)]}, impl.Report{List: some.List}) {
			t.Errorf("%s\nby %d runs is %v", text, runs, some)
		}
	}
}

func TestAnObservationThatComesAgain(t *testing.T) {
	text := inTest("c := make(chan int); go put(c, 1); go put(c, 2); go put(c, 1); print(<-c); stuck()")
	first, second := seen(deadlock, []int{1}, noughts(5)), seen(deadlock, []int{2}, []int{0, 0, 0, 1, 0})
	wantBoth(t, text, 100, 1, impl.Report{List: []impl.Seen{first}, Runs: 1})
	wantBoth(t, text, 100, 2, impl.Report{List: []impl.Seen{first, second}, Runs: 2})
	wantBoth(t, text, 100, 3, impl.Report{List: []impl.Seen{first, second}, Runs: 3, Exhaustive: true})
	// All runs have one observation.
	text = inTest("c := make(chan int); go put(c, 1); go put(c, 1); go put(c, 1); print(<-c)")
	wantBoth(t, text, 100, 300, impl.Report{List: []impl.Seen{seen(done, []int{1}, noughts(6))}, Runs: 3, Exhaustive: true})
}

// fourEnds is a test of four runs, each with another end.
const fourEnds = `func TestA() {
	c := make(chan int)
	close(c)
	select {
	case <-c: select {}
	case <-c: for {}
	case <-c: print(1); panic(8)
	case <-c: print(1)
	}
}`

func TestAllEnds(t *testing.T) {
	list := []impl.Seen{seen(deadlock, nil, []int{0, 0}), seen(crash(impl.PnUser, 8), []int{1}, []int{0, 2, 0, 0}), seen(done, []int{1}, []int{0, 3, 0, 0})}
	for steps := 4; steps < 300; steps++ {
		wantBoth(t, fourEnds, steps, 4, impl.Report{List: list, Runs: 4})
		wantBoth(t, fourEnds, steps, 3, impl.Report{List: list[:2], Runs: 3})
	}
	// The deadlock is there by the steps ahead of it and one more, the others by the last one.
	wantBoth(t, fourEnds, 3, 4, impl.Report{List: list[:1], Runs: 4})
	wantBoth(t, fourEnds, 2, 4, impl.Report{Runs: 4})
	wantBoth(t, fourEnds, 1, 4, impl.Report{Runs: 1})
	text := strings.Replace(fourEnds, "for {}", "panic(9)", 1)
	all := slices.Insert(slices.Clone(list), 1, seen(crash(impl.PnUser, 9), nil, []int{0, 1, 0}))
	wantBoth(t, text, 4, 4, impl.Report{List: all, Runs: 4, Exhaustive: true})
	wantBoth(t, text, 3, 4, impl.Report{List: all[:2], Runs: 4})
}

func TestRunsThatHaveNotStepsEnough(t *testing.T) {
	text := inTest("c := make(chan int); go put(c, 1); go put(c, 2); print(<-c); print(<-c)")
	full := impl.Report{List: []impl.Seen{seen(done, []int{1, 2}, noughts(7)), seen(done, []int{2, 1}, []int{0, 0, 1, 0, 0, 0, 0})}, Runs: 2, Exhaustive: true}
	wantBoth(t, text, 7, 300, full)
	wantBoth(t, text, 8, 2, full)
	wantBoth(t, text, impl.MaxSteps, 2, full)
	wantBoth(t, text, 6, 300, impl.Report{Runs: 2})
	wantBoth(t, text, 3, 300, impl.Report{Runs: 2})
	wantBoth(t, text, 2, 300, impl.Report{Runs: 1})
	// One run is too long, the other is not: in either order.
	for _, long := range []int{1, 2} {
		text = inTest("c := make(chan int); go put(c, 1); go put(c, 2); if <-c == " + strconv.Itoa(long) + " { for {} }")
		want := impl.Report{List: []impl.Seen{seen(done, nil, []int{0, 0, 2 - long, 0})}, Runs: 2}
		wantBoth(t, text, 50, 300, want)
		wantBoth(t, text, 50, 2, want)
		if long == 1 {
			want.List = nil
		}
		want.Runs = 1
		wantBoth(t, text, 50, 1, want)
	}
}

// A run may be as long as there are steps, and each of its points may have another move.
func TestLongRuns(t *testing.T) {
	wantBoth(t, "func TestA() { for { print(1) } }", impl.MaxSteps, impl.MaxRuns, impl.Report{Runs: 1})
	text := "func TestA() { i := 0; for i < 999 { print(i); i++ } }"
	wantBoth(t, text, 1999, 1, impl.Report{List: []impl.Seen{seen(done, places(999), noughts(1000))}, Runs: 1, Exhaustive: true})
	wantBoth(t, text, 1998, 1, impl.Report{Runs: 1})
	text = "func both(a int) { for { print(a) } }\nfunc TestA() { go both(1); both(2) }"
	wantBoth(t, text, impl.MaxSteps, impl.MaxRuns, impl.Report{Runs: impl.MaxRuns})
	// Channels that are made on the way are there no more where the run is taken back.
	text = "func TestA() { go makes(1); makes(2) }\nfunc makes(a int) { i := 0; for i < 4 { c := make(chan int, 1); c <- a; print(<-c); i++ } }"
	for _, way := range bothWays {
		wantScripts(t, treeOf(t, text), text, 100, report(t, way, text, 100, impl.MaxRuns))
	}
}

func TestSeensThatAreAlike(t *testing.T) {
	a := impl.Seen{Kind: 2, Code: 5, Value: -7, Trace: []int{1, 12, 3}, Script: []int{0, 1}}
	alike := []impl.Seen{a, {Kind: 2, Code: 5, Value: -7, Trace: []int{1, 12, 3}}, {Kind: 2, Code: 5, Value: -7, Trace: []int{1, 12, 3}, Script: []int{4, 5, 6}}}
	for _, b := range alike {
		if !impl.SameSeen(a, b) || !impl.SameSeen(b, a) {
			t.Errorf("%v and %v are alike", a, b)
		}
	}
	others := []impl.Seen{{}, {Kind: 1, Code: 5, Value: -7, Trace: a.Trace}, {Kind: 2, Code: 4, Value: -7, Trace: a.Trace}, {Kind: 2, Code: 5, Value: 7, Trace: a.Trace}, {Kind: 5, Code: 2, Value: -7, Trace: a.Trace}}
	for _, trace := range [][]int{nil, {}, {1}, {1, 12}, {1, 12, 3, 0}, {1, 1, 23}, {11, 2, 3}, {1, 12, -3}, {1, 12, 4}, {112, 3}, {1, 3, 12}, {1123}, {12, 3}, {0, 1, 12, 3}} {
		others = append(others, impl.Seen{Kind: 2, Code: 5, Value: -7, Trace: trace, Script: a.Script})
	}
	for _, b := range others {
		if impl.SameSeen(a, b) || impl.SameSeen(b, a) {
			t.Errorf("%v and %v are not alike", a, b)
		}
	}
	// An empty list and nil are one.
	if !impl.SameSeen(impl.Seen{Trace: []int{}}, impl.Seen{}) || !impl.SameSeen(impl.Seen{Script: []int{}}, impl.Seen{}) || impl.SameSeen(impl.Seen{Trace: []int{0}}, impl.Seen{}) {
		t.Error("a trace that is empty, or nil, or has a nought")
	}
	// Any numbers, and lists of any length.
	far := impl.Seen{Kind: math.MinInt, Code: math.MaxInt, Value: math.MinInt, Trace: []int{math.MaxInt, math.MinInt}, Script: make([]int, 5000)}
	long := impl.Seen{Trace: make([]int, 100000)}
	if !impl.SameSeen(far, far) || !impl.SameSeen(long, long) || impl.SameSeen(long, impl.Seen{Trace: make([]int, 99999)}) {
		t.Error("numbers and lists at their ends")
	}
}

func wantWithin(t *testing.T, a, b []impl.Seen, at, code int) {
	t.Helper()
	if gotAt, got := impl.Within(a, b); gotAt != at || got != code {
		t.Errorf("Within of %d and %d is %d with code %d, not %d with code %d", len(a), len(b), gotAt, got, at, code)
	}
}

func TestTheFirstThatIsLikeNone(t *testing.T) {
	of := func(kinds ...int) []impl.Seen {
		var list []impl.Seen
		for i, kind := range kinds {
			list = append(list, impl.Seen{Kind: kind, Trace: []int{kind}, Script: []int{i}})
		}
		return list
	}
	wantWithin(t, nil, nil, 0, impl.ErrNone)
	wantWithin(t, []impl.Seen{}, of(1), 0, impl.ErrNone)
	wantWithin(t, of(1), nil, 0, impl.OK)
	wantWithin(t, of(1, 2, 3), []impl.Seen{}, 0, impl.OK)
	wantWithin(t, of(1, 2, 3), of(3, 2, 1), 0, impl.ErrNone)
	wantWithin(t, of(1, 1, 1), of(1), 0, impl.ErrNone)
	wantWithin(t, of(1), of(1, 1, 2), 0, impl.ErrNone)
	wantWithin(t, of(1, 2, 3), of(2, 3), 0, impl.OK)
	wantWithin(t, of(1, 2, 3), of(1, 3), 1, impl.OK)
	wantWithin(t, of(1, 2, 3), of(1, 2), 2, impl.OK)
	wantWithin(t, of(1, 2, 3, 2, 3), of(1), 1, impl.OK)
	wantWithin(t, of(4, 4), of(1, 2, 3), 0, impl.OK)
	wantWithin(t, []impl.Seen{{}}, []impl.Seen{{Trace: []int{}, Script: []int{9}}}, 0, impl.ErrNone)
	// Within takes what SameSeen takes for alike.
	all := []impl.Seen{{}, {Kind: 1}, {Code: 1}, {Value: 1}, {Trace: []int{1}}, {Trace: []int{1, 1}}, {Trace: []int{11}}, {Script: []int{1}}, {Value: -1}, {Kind: 1, Code: 1}}
	for _, a := range all {
		for _, b := range all {
			want := impl.OK
			if impl.SameSeen(a, b) {
				want = impl.ErrNone
			}
			wantWithin(t, []impl.Seen{a}, []impl.Seen{b}, 0, want)
		}
	}
	// Lists at their longest.
	most, more := make([]impl.Seen, impl.MaxList), make([]impl.Seen, impl.MaxList+1)
	wantWithin(t, most, most, 0, impl.ErrNone)
	wantWithin(t, more, most, 0, impl.ErrLong)
	wantWithin(t, most, more, 0, impl.ErrLong)
	wantWithin(t, more, nil, 0, impl.ErrLong)
	wantWithin(t, nil, more, 0, impl.ErrLong)
	wantWithin(t, append(most[:impl.MaxList-1:impl.MaxList-1], of(7)...), most, impl.MaxList-1, impl.OK)
	wantWithin(t, of(7), append(most[:impl.MaxList-1:impl.MaxList-1], of(7)...), 0, impl.ErrNone)
}

// Long lists of long traces that differ at their ends alone are held against each other in no time.
func TestLongTracesAreHeldAgainstEachOther(t *testing.T) {
	var a, b []impl.Seen
	for i := range impl.MaxList {
		trace := make([]int, 500)
		trace[499] = i
		a = append(a, impl.Seen{Trace: trace})
		b = append(b, impl.Seen{Trace: slices.Clone(trace), Script: []int{i}})
	}
	slices.Reverse(b)
	wantWithin(t, a, b, 0, impl.ErrNone)
	b[17].Trace[499] = -1
	wantWithin(t, a, b, impl.MaxList-18, impl.OK)
}
