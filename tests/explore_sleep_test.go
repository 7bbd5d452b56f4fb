package tests

import (
	"strings"
	"testing"

	"loop.example/g00135/impl"
)

// wantRuns asks how many runs a text's TestA has, and how many of them are not left out; the observations are the same.
func wantRuns(t *testing.T, text string, all, awake int) {
	t.Helper()
	e, s := report(t, bothWays[0], text, 200, impl.MaxRuns), report(t, bothWays[1], text, 200, impl.MaxRuns)
	if e.Runs != all || s.Runs != awake || !e.Exhaustive || !s.Exhaustive {
		t.Errorf("%s\nhas %d runs, with sleep %d, not %d and %d; exhaustive: %v and %v", text, e.Runs, s.Runs, all, awake, e.Exhaustive, s.Exhaustive)
	}
	_, missed := impl.Within(e.List, s.List)
	_, added := impl.Within(s.List, e.List)
	if missed != impl.ErrNone || added != impl.ErrNone {
		t.Errorf("%s\nhas %v, with sleep %v", text, e.List, s.List)
	}
}

// beside is a test that, when all channels are as setup leaves them, has just the
// moves of first, by the test itself, and of second, by another goroutine.
func beside(setup, first, second string) string {
	return "func TestA() {\nc := make(chan int, 4); d := make(chan int, 4); u := make(chan int)\n" + setup + "\ngo other(c, d, u)\n" + first + "\n}\n" +
		"func other(c chan int, d chan int, u chan int) {\n" + second + "\nselect {}\n}\nfunc idle() {}\n"
}

const someIn = "c <- 1; c <- 2; d <- 1; d <- 2"

func TestMovesThatAreApart(t *testing.T) {
	for _, pair := range [][2]string{
		{"c <- 1", "d <- 1"}, {"c <- 1", "<-d"}, {"<-c", "<-d"}, {"<-c", "d <- 5"}, {"close(c)", "close(d)"}, {"close(c)", "d <- 1"}, {"close(u)", "<-d"}, {"select { case <-c: }", "<-d"},
		{"select { case <-u:; case <-c:; default: }", "d <- 3"}, {"close(u)", "close(c)"},
		{"print(1)", "c <- 1"}, {"print(1)", "<-c"}, {"print(1)", "close(c)"}, {"print(1)", "select { case u <- 1:; case <-d: }"},
	} {
		wantRuns(t, beside(someIn, pair[0]+"; select {}", pair[1]), 2, 1)
		wantRuns(t, beside(someIn, pair[1]+"; select {}", pair[0]), 2, 1)
	}
	// Several moves of one, each apart from that of the other.
	wantRuns(t, beside(someIn, "print(<-c); select {}", "<-d"), 3, 1)
	wantRuns(t, beside(someIn, "<-d; select {}", "print(<-c)"), 3, 1)
}

func TestMovesThatAreNotApart(t *testing.T) {
	for _, pair := range [][2]string{
		// One channel.
		{"c <- 1", "c <- 1"}, {"c <- 1", "c <- 5"}, {"<-c", "<-c"}, {"<-c", "c <- 1"}, {"close(c)", "<-c"}, {"select { case <-c:; case <-u: }", "select { case c <- 1: }"},
		// Two prints.
		{"print(1)", "print(1)"}, {"print(1)", "print(2)"},
		// A default.
		{"select { default: }", "print(1)"}, {"select { default: }", "c <- 1"}, {"select { case <-u:; default: }", "<-c"}, {"select { default: }", "select { default: }"}, {"select { default: }", "close(d)"},
		// A go.
		{"go idle()", "print(1)"}, {"go idle()", "c <- 1"}, {"go idle()", "<-d"}, {"go idle()", "go idle()"}, {"go idle()", "close(c)"}, {"go idle()", "select { default: }"},
	} {
		wantRuns(t, beside(someIn, pair[0]+"; select {}", pair[1]), 2, 2)
		wantRuns(t, beside(someIn, pair[1]+"; select {}", pair[0]), 2, 2)
	}
	// Two names of one channel.
	wantRuns(t, beside(someIn+"; d = c", "c <- 1; select {}", "d <- 1"), 2, 2)
	// A crash, and the end of the test: those of the test itself come first, and would sleep if they were apart.
	for _, last := range []string{"", "panic(1)", "print(1 / 0)"} {
		for _, second := range []string{"print(1)", "c <- 1", "<-d", "close(c)"} {
			wantRuns(t, beside(someIn, last, second), 2, 2)
		}
	}
	// Where both crash, or one crashes by what it does.
	wantRuns(t, beside(someIn, "panic(1)", "panic(2)"), 2, 2)
	wantRuns(t, beside(someIn, "close(c); select {}", "c <- 1"), 2, 2)
	wantRuns(t, beside(someIn, "close(c); select {}", "close(c)"), 2, 2)
	// Sends that panic are apart, the crashes behind them are not.
	wantRuns(t, beside(someIn+"; close(c); close(d)", "c <- 1", "d <- 1"), 6, 4)
}

// Both who sends and who receives have a part in a move.
func TestAGoroutineInCommon(t *testing.T) {
	// Whoever comes second is met at the same place, by the same clause, as it would have been at first.
	receiver := "i := 0; for i < 2 { i++; select { case <-c:; case <-d: } }; print(9)"
	wantRuns(t, inTest("c := make(chan int); d := make(chan int); go put(c, 1); go put(d, 2); "+receiver), 2, 2)
	sender := "i := 0; for i < 2 { i++; select { case c <- 1:; case d <- 2: } }; stuck()"
	text := inTest("c := make(chan int); d := make(chan int); go take(c); go take(d); "+sender) + "func take(c chan int) { <-c }"
	wantRuns(t, text, 2, 2)
	// One sends to the other, which could send to a third.
	text = inTest("c := make(chan int); d := make(chan int); go take(d); go both(c, d); c <- 1; stuck()") + "func take(c chan int) { <-c }\nfunc both(c chan int, d chan int) { i := 0; for i < 2 { i++; select { case <-c:; case d <- 1: } } }"
	wantRuns(t, text, 2, 2)
	// Two clauses of one select.
	wantRuns(t, beside(someIn, "select { case <-c: print(1); case <-d: print(2) }; select {}", ""), 2, 2)
	wantRuns(t, beside(someIn, "i := 0; for i < 2 { i++; select { case <-c:; case <-d: } }; select {}", ""), 4, 4)
	// Pairs that have nothing in common.
	text = inTest("c := make(chan int); d := make(chan int); go take(c); go take(d); go late(d); c <- 1; stuck()") + "func take(c chan int) { <-c }\nfunc late(d chan int) { d <- 1 }"
	wantRuns(t, text, 2, 1)
}

// What slept sleeps on behind moves that it is apart from, and wakes behind others.
func TestSleepGoesOnAndEnds(t *testing.T) {
	// released is a test that starts goroutines and lets each go at once, to do some things.
	released := func(things string, count int) string {
		return "func TestA() {\n" + strings.Repeat("{ a := make(chan int); go works(a); a <- 0 }\n", count) +
			"select {}\n}\nfunc works(a chan int) { own := make(chan int, 9); <-a; " + things + " }"
	}
	// A go comes between: each that was let go ahead of it has moved on to any place.
	wantRuns(t, released("own <- 1", 1), 1, 1)
	wantRuns(t, released("own <- 1", 2), 4, 2)
	wantRuns(t, released("own <- 1; <-own", 2), 15, 3)
	// waits is one that lets them go when all are started.
	waits := func(count int, things string) string {
		text := "func TestA() {\n"
		for i := range count {
			name := string(rune('p' + i))
			text += name + " := make(chan int); go works(" + name + ")\n"
		}
		for i := range count {
			text += string(rune('p'+i)) + " <- 0\n"
		}
		return text + "select {}\n}\nfunc works(a chan int) { own := make(chan int, 9); <-a; " + things + " }"
	}
	wantRuns(t, waits(1, "own <- 1; own <- 2"), 1, 1)
	// With two, the first one's two moves stand beside the test's other send and the second one's two moves.
	wantRuns(t, waits(2, "own <- 1"), 3, 1)
	wantRuns(t, waits(2, "own <- 1; own <- 2"), 10, 1)
	wantRuns(t, waits(2, "own <- 1; print(<-own)"), 35, 2)
	wantRuns(t, waits(2, "print(1)"), 3, 2)
	wantRuns(t, waits(3, "own <- 1"), 15, 1)
	// A print wakes a print, and nothing else does.
	wantRuns(t, beside(someIn, "print(1); select {}", "c <- 1; print(2)"), 3, 2)
	wantRuns(t, beside(someIn, "print(1); select {}", "c <- 1; d <- 1"), 3, 1)
	wantRuns(t, beside(someIn, "print(1); select {}", "c <- 1; d <- 1; print(2)"), 4, 2)
	wantRuns(t, beside(someIn, "c <- 1; select {}", "print(1); print(2); d <- 1; <-c"), 5, 2)
	wantRuns(t, beside(someIn, "c <- 1; select {}", "print(1); print(2); d <- 1; go idle(); print(3)"), 6, 2)
	// Sleep at the beginning, where nothing slept, is no different from sleep later on.
	wantRuns(t, beside("print(1); "+someIn, "<-c; <-d; select {}", "print(2); print(3)"), 6, 1)
}

// A move is the same by all it has, not by its goroutine alone.
func TestWhichMoveSleeps(t *testing.T) {
	// Another clause: behind the other's move at d the receive from c sleeps, that from d does not.
	wantRuns(t, beside(someIn, "select { case <-c: print(1); case <-d: print(2) }; select {}", "d <- 5"), 6, 3)
	// Another channel by the same clause, come to again: nothing sleeps, as the goroutine moved.
	wantRuns(t, beside(someIn, "<-c; c = d; <-c; select {}", "<-d"), 3, 2)
	// Another partner: the test's send to the first sleeps behind what the second does alone, that to the second does not.
	text := inTest("c := make(chan int); d := make(chan int); close(d); go take(c); go busy(c, d); c <- 1; stuck()") +
		"func take(c chan int) { <-c }\nfunc busy(c chan int, d chan int) { i := 0; for i < 2 { i++; select { case <-c: return; case <-d: } } }"
	wantRuns(t, text, 5, 3)
	// Another value, at the same place.
	wantRuns(t, beside(someIn, "i := 0; for i < 2 { print(i); i++ }; select {}", "d <- 1; d <- 1"), 6, 1)
	wantRuns(t, beside(someIn, "i := 0; for i < 2 { print(i); i++ }; select {}", "print(0); print(0)"), 6, 6)
}

// Where all moves sleep nothing is observed: neither an end nor a run.
func TestWhereAllMovesSleep(t *testing.T) {
	text := beside(someIn, "c <- 1; select {}", "d <- 1")
	want := impl.Report{List: []impl.Seen{seen(deadlock, nil, noughts(7))}, Runs: 1, Exhaustive: true}
	if r := report(t, bothWays[1], text, 200, 1); !sameReport(r, want) {
		t.Errorf("%s\nby one run is %v", text, r)
	}
	if r := report(t, bothWays[1], text, 8, 300); !sameReport(r, want) {
		t.Errorf("%s\nby 8 steps is %v", text, r)
	}
	// That run has no step left at its end; the other one is left out with one step left.
	if r := report(t, bothWays[1], text, 7, 300); !sameReport(r, impl.Report{Runs: 1}) {
		t.Errorf("%s\nby 7 steps is %v", text, r)
	}
	// A run that has none left has ended, and nothing sleeps any more.
	if r := report(t, bothWays[1], text, 6, 300); !sameReport(r, impl.Report{Runs: 2}) {
		t.Errorf("%s\nby 6 steps is %v", text, r)
	}
	if r := report(t, bothWays[1], text, 5, 300); !sameReport(r, impl.Report{Runs: 1}) {
		t.Errorf("%s\nby 5 steps is %v", text, r)
	}
}

// Many runs are one with sleep.
func TestSleepOfMany(t *testing.T) {
	var text strings.Builder
	text.WriteString("func TestA() {\ns := make(chan int)\n")
	text.WriteString(strings.Repeat("go works(s)\n", 6) + strings.Repeat("s <- 0\n", 6))
	text.WriteString("select {}\n}\nfunc works(s chan int) { own := make(chan int, 9); <-s; own <- 1; own <- 2 }")
	e, s := report(t, bothWays[0], text.String(), 200, impl.MaxRuns), report(t, bothWays[1], text.String(), 200, impl.MaxRuns)
	if e.Exhaustive || s.Exhaustive {
		t.Errorf("%s\nhas more runs: %v, %v", text.String(), e, s)
	}
	apart := strings.NewReplacer("go works(s)\n", "", "s <- 0\n", "").Replace(text.String())
	for _, name := range []string{"p", "q", "r", "x", "y"} {
		apart = strings.Replace(apart, "select {}", name+" <- 0\nselect {}", 1)
		apart = strings.Replace(apart, "s := make(chan int)\n", "s := make(chan int)\n"+name+" := make(chan int); go works("+name+")\n", 1)
	}
	e, s = report(t, bothWays[0], apart, 200, impl.MaxRuns), report(t, bothWays[1], apart, 200, impl.MaxRuns)
	if e.Exhaustive || !s.Exhaustive || s.Runs != 1 || len(s.List) != 1 || s.List[0].Kind != impl.OtDeadlock {
		t.Errorf("%s\nhas one run with sleep: %v, %v", apart, e, s)
	}
}
