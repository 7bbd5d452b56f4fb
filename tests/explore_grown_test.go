package tests

import (
	"math/rand"
	"slices"
	"strconv"
	"strings"
	"testing"

	"loop.example/g00135/impl"
)

// A sketcher writes small programs by chance, whose runs are few enough to be gone through.
type sketcher struct {
	draw *rand.Rand
	// The functions that may be started are those from here on: so no program grows without end.
	next int
}

func (s *sketcher) one(list ...string) string { return list[s.draw.Intn(len(list))] }

const sketchedFunctions = 3

func (s *sketcher) file() string {
	var text strings.Builder
	for i := range sketchedFunctions {
		s.next = i + 1
		text.WriteString("func w" + strconv.Itoa(i) + "(c chan int, d chan int, e chan int) {\n" + s.statements(1, 3) + "}\n")
	}
	return text.String() + s.test("TestA")
}

func (s *sketcher) test(name string) string {
	var text strings.Builder
	s.next = 0
	text.WriteString("func " + name + "() {\n")
	for _, name := range []string{"c", "d", "e"} {
		text.WriteString(name + " := " + s.made() + "\n")
	}
	for range 1 + s.draw.Intn(3) {
		text.WriteString("go " + s.call() + "\n" + s.one("", "", s.statement()+"\n"))
	}
	return text.String() + s.statements(0, 3) + s.one("", "select {}\n", "select {}\n", "<-c\n") + "}\n"
}

func (s *sketcher) made() string {
	return s.one("make(chan int)", "make(chan int)", "make(chan int, 1)", "make(chan int, 2)")
}

func (s *sketcher) channel() string { return s.one("c", "d", "e") }

func (s *sketcher) number() string { return strconv.Itoa(s.draw.Intn(3)) }

func (s *sketcher) call() string {
	return "w" + strconv.Itoa(s.next+s.draw.Intn(sketchedFunctions-s.next)) + s.one("(c, d, e)", "(c, d, e)", "(d, c, e)", "(e, e, d)", "("+s.made()+", c, d)")
}

func (s *sketcher) statements(least, most int) string {
	var text strings.Builder
	for range least + s.draw.Intn(most-least+1) {
		text.WriteString(s.statement() + "\n")
	}
	return text.String()
}

func (s *sketcher) statement() string {
	switch s.draw.Intn(14) {
	case 0, 1:
		return "print(" + s.number() + ")"
	case 2:
		return "print(<-" + s.channel() + ")"
	case 3, 4, 5:
		return s.channel() + " <- " + s.number()
	case 6, 7:
		return "<-" + s.channel()
	case 8:
		return "close(" + s.channel() + ")"
	case 9:
		return s.one(s.channel()+" = "+s.made(), s.channel()+" = "+s.channel(), "if <-"+s.channel()+" == 1 { "+s.statement()+" }", "panic("+s.number()+")", "for { "+s.statement()+" }")
	case 10:
		if s.next < sketchedFunctions {
			return s.one("go ", "go ", "defer ", "") + s.call()
		}
	}
	return s.choice()
}

func (s *sketcher) choice() string {
	text := "select {\n"
	for range 1 + s.draw.Intn(3) {
		text += s.one("case <-"+s.channel()+":\n", "case v := <-"+s.channel()+":\nprint(v)\n", "case "+s.channel()+" <- "+s.number()+":\n")
		text += s.one("", "", "print("+s.number()+")\n", s.channel()+" <- "+s.number()+"\n")
	}
	return text + s.one("", "", "default:\n", "default:\nprint("+s.number()+")\n") + "}"
}

// eachSketch calls try with small programs by chance.
func eachSketch(t *testing.T, seed int64, count int, try func(n impl.Node, text string, draw *rand.Rand)) {
	t.Helper()
	draw := rand.New(rand.NewSource(seed))
	for range count {
		text := (&sketcher{draw: draw}).file()
		n := treeOf(t, text)
		if code, at := impl.Check(n); code != impl.OK {
			t.Fatalf("%s\nhas code %d at %d", text, code, at)
		}
		try(n, text, draw)
	}
}

// A tally counts what the reports were of.
type tally struct {
	known, exhaustive, cut, short, fewer int
	longest                              int
	ends                                 map[int]int
}

func (y *tally) add(r impl.Report, runs int) {
	y.known++
	if r.Exhaustive {
		y.exhaustive++
	}
	if !r.Exhaustive && r.Runs == runs {
		y.cut++
	}
	if !r.Exhaustive && r.Runs < runs {
		y.short++
	}
	y.longest = max(y.longest, len(r.List))
	for _, seen := range r.List {
		y.ends[seen.Kind]++
	}
}

// wantSecondReports holds both ways to explore against their second ways.
func wantSecondReports(t *testing.T, n impl.Node, text string, steps, runs int, plain, sleepy *tally) {
	t.Helper()
	e, code := impl.Explore(n, "TestA", steps, runs)
	if want, known := secondReport(n, "TestA", steps, runs, false); known {
		plain.add(e, runs)
		if code != impl.OK || !sameReport(e, want) {
			t.Fatalf("%s\nexplored by %d steps and %d runs has code %d and is\n%v, not\n%v", text, steps, runs, code, e, want)
		}
	}
	s, code := impl.Sleep(n, "TestA", steps, runs)
	if want, known := secondReport(n, "TestA", steps, runs, true); known {
		sleepy.add(s, runs)
		if code != impl.OK || !sameReport(s, want) {
			t.Fatalf("%s\nexplored with sleep by %d steps and %d runs has code %d and is\n%v, not\n%v", text, steps, runs, code, s, want)
		}
	}
	if e.Exhaustive && s.Runs < e.Runs {
		sleepy.fewer++
	}
}

func wantTally(t *testing.T, y tally, least int) {
	t.Helper()
	t.Logf("%+v", y)
	for _, count := range []int{y.exhaustive, y.cut, y.short, y.ends[impl.OtDone], y.ends[impl.OtPanic], y.ends[impl.OtDeadlock]} {
		if count < least {
			t.Errorf("some reports are too few: %+v", y)
		}
	}
}

func TestReportsAreThoseOfTheSecondWay(t *testing.T) {
	plain, sleepy := tally{ends: map[int]int{}}, tally{ends: map[int]int{}}
	eachSketch(t, 31, 3000, func(n impl.Node, text string, draw *rand.Rand) {
		steps := []int{1 + draw.Intn(12), 60, 60}[draw.Intn(3)]
		wantSecondReports(t, n, text, steps, 1+draw.Intn(1+draw.Intn(impl.MaxRuns)), &plain, &sleepy)
	})
	wantTally(t, plain, 200)
	wantTally(t, sleepy, 200)
	if sleepy.fewer < 200 || plain.longest < 10 || sleepy.longest < 10 {
		t.Errorf("sleep leaves runs out of only %d reports, the longest lists are %d and %d long", sleepy.fewer, plain.longest, sleepy.longest)
	}
}

func TestReportsOfPlaysAreThoseOfTheSecondWay(t *testing.T) {
	plain, sleepy := tally{ends: map[int]int{}}, tally{ends: map[int]int{}}
	eachPlay(t, 32, 1500, func(n impl.Node, text string, draw *rand.Rand) {
		wantSecondReports(t, n, text, 1+draw.Intn(80), 1+draw.Intn(40), &plain, &sleepy)
	})
	wantTally(t, plain, 100)
	wantTally(t, sleepy, 100)
}

// wantScripts asks that each observation is made by its script, and none is there twice.
func wantScripts(t *testing.T, n impl.Node, text string, steps int, r impl.Report) {
	t.Helper()
	for i, seen := range r.List {
		run, code := impl.RunTest(n, "TestA", seen.Script, steps)
		made := impl.Seen{Kind: run.Kind, Code: run.Code, Value: run.Value, Trace: run.Trace}
		if code != impl.OK || !impl.SameSeen(made, seen) || !slices.Equal(run.Picks, seen.Script) || seen.Kind == impl.OtBudget {
			t.Fatalf("%s\nhas %v, but by its script it is %v", text, seen, run)
		}
		if at, code := impl.Within([]impl.Seen{seen}, r.List[:i]); at != 0 || code != impl.OK {
			t.Fatalf("%s\nhas %v twice", text, seen)
		}
	}
}

// wantNoneMissed asks that reports, if they are exhaustive, have what runs by chance do.
func wantNoneMissed(t *testing.T, n impl.Node, text string, steps int, draw *rand.Rand, reports ...impl.Report) {
	t.Helper()
	for range 20 {
		run, _ := impl.RunTest(n, "TestA", drawnScript(draw), steps)
		made := []impl.Seen{{Kind: run.Kind, Code: run.Code, Value: run.Value, Trace: run.Trace}}
		for _, r := range reports {
			if _, code := impl.Within(made, r.List); r.Exhaustive && code != impl.ErrNone {
				t.Fatalf("%s\nis exhaustive, but misses %v", text, run)
			}
		}
	}
}

// Promise 6.
func TestObservationsHaveScriptsAndNoneIsMissed(t *testing.T) {
	both, more, fewer := 0, 0, 0
	eachSketch(t, 33, 6000, func(n impl.Node, text string, draw *rand.Rand) {
		steps := 1 + draw.Intn(100)
		e, _ := impl.Explore(n, "TestA", steps, impl.MaxRuns)
		s, _ := impl.Sleep(n, "TestA", steps, impl.MaxRuns)
		wantScripts(t, n, text, steps, e)
		wantScripts(t, n, text, steps, s)
		wantNoneMissed(t, n, text, steps, draw, e, s)
		if !e.Exhaustive && s.Exhaustive {
			more++
		}
		if !e.Exhaustive {
			return
		}
		_, missed := impl.Within(e.List, s.List)
		_, added := impl.Within(s.List, e.List)
		if !s.Exhaustive || missed != impl.ErrNone || added != impl.ErrNone || s.Runs > e.Runs {
			t.Fatalf("%s\nby %d steps is %v, but with sleep %v", text, steps, e, s)
		}
		both++
		if s.Runs < e.Runs {
			fewer++
		}
	})
	if both < 2000 || more < 100 || fewer < 1000 {
		t.Errorf("%d programs have exhaustive reports of both kinds, %d with sleep alone, %d with fewer runs", both, more, fewer)
	}
}

// Programs of which some things were changed are explored just where they can be run still.
func TestAnyTreeIsExploredOrHasACode(t *testing.T) {
	codes := map[int]int{}
	plain, sleepy := tally{ends: map[int]int{}}, tally{ends: map[int]int{}}
	eachSketch(t, 34, 3000, func(n impl.Node, text string, draw *rand.Rand) {
		for range 1 + draw.Intn(2) {
			spoil(&n, draw)
		}
		_, code := impl.RunTest(n, "TestA", nil, 30)
		codes[code]++
		wantReportCode(t, n, "TestA", 30, 20, code)
		if code == impl.OK {
			wantSecondReports(t, n, show(n), 30, 20, &plain, &sleepy)
		}
	})
	if codes[impl.OK] < 100 || codes[impl.ErrBad] < 1000 || codes[impl.ErrName] < 100 {
		t.Error("trees by code:", codes)
	}
}
