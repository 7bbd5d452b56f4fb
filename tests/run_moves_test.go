package tests

import (
	"slices"
	"strconv"
	"strings"
	"testing"

	"loop.example/g00135/impl"
)

// wantMoves asks what moves there are behind those of a script: what each of them, picked alone, makes the run print, and how it ends.
func wantMoves(t *testing.T, text string, before []int, traces ...[]int) {
	t.Helper()
	for i, trace := range traces {
		r := ran(t, text, append(slices.Clone(before), i), 1000)
		if len(r.Widths) <= len(before) || r.Widths[len(before)] != len(traces) {
			t.Errorf("%s\nby %v has the widths %v, not %d at last", text, before, r.Widths, len(traces))
			return
		}
		if !slices.Equal(r.Trace, trace) {
			t.Errorf("%s\nby %v and then %d prints %v, not %v", text, before, i, r.Trace, trace)
		}
	}
}

// noughts is a script that picks the first move n times.
func noughts(n int) []int { return make([]int, n) }

func TestOneMoveForWhatNeedsNoPartner(t *testing.T) {
	for body, widths := range map[string]int{
		"":                                    1,
		"print(1)":                            2,
		"c := make(chan int); close(c)":       2,
		"go idle()":                           2,
		"panic(1)":                            1,
		"c := make(chan int, 1); c <- 1; <-c": 3,
		"select { default: }":                 2,
		"idle(); x := 1 + sum(2, 3); x = x / 5; x++":   1,
		"for false {}; if true {} else {}":             1,
		"defer idle(); c := make(chan int, 64); c = c": 1,
	} {
		r := ran(t, inTest(body), nil, 100)
		if !slices.Equal(r.Widths, slices.Repeat([]int{1}, widths)) {
			t.Errorf("%s has the widths %v, not %d times 1", body, r.Widths, widths)
		}
	}
}

func TestMovesGoroutineByGoroutine(t *testing.T) {
	text := inTest("go show(1); go show(2); go show(3); print(0); stuck()")
	wantMoves(t, text, noughts(3), []int{0, 1, 2, 3}, []int{1, 0, 2, 3}, []int{2, 0, 1, 3}, []int{3, 0, 1, 2})
	// The numbers are those of their starts, even where one of them is gone.
	wantMoves(t, text, []int{0, 1, 0, 0}, []int{1, 0, 2, 3}, []int{1, 2, 0, 3}, []int{1, 3, 0, 2})
	// Those that one started at last come last.
	text = inTest("go starts(1); go show(7); stuck()") + "func starts(a int) { go show(a); go show(a + 1); print(a + 2) }"
	wantMoves(t, text, []int{0, 1, 0, 0}, []int{3, 1, 7, 2}, []int{1, 3, 7, 2}, []int{7, 3, 1, 2}, []int{2, 3, 1, 7})
	wantMoves(t, text, []int{0, 0, 0, 0}, []int{3, 7, 1, 2}, []int{7, 3, 1, 2}, []int{1, 3, 7, 2}, []int{2, 3, 7, 1})
	wantMoves(t, text, []int{0, 0, 1, 0, 0}, []int{7, 3, 1, 2}, []int{7, 1, 3, 2}, []int{7, 2, 3, 1})
}

func TestMovesClauseByClause(t *testing.T) {
	setup := "c := make(chan int, 2); c <- 8; d := make(chan int); e := make(chan int); close(e); "
	text := inTest(setup + "select { case c <- 7: print(1); case v := <-c: print(v); case <-d: print(2); case d <- 1: print(3); default: print(4); case w := <-e: print(w - 5); case <-c: print(6) }")
	wantMoves(t, text, noughts(2), []int{1}, []int{8}, []int{-5}, []int{6})
	// A send into a closed one is a move, too.
	text = inTest(setup + "defer show(9); select { case <-d: print(1); case e <- 5: print(2); case <-c: print(3) }")
	wantMoves(t, text, noughts(2), []int{9}, []int{3, 9})
	wantEnd(t, text, []int{0, 0, 0}, crash(impl.PnSend, 0), 9)
	// Clauses of several goroutines.
	text = inTest(setup+"go both(c, e); select { case <-c: print(1); case c <- 2: print(2) }; stuck()") + "func both(c chan int, e chan int) { select { case c <- 3: print(3); case <-c: print(4); case <-e: print(5) } }"
	wantMoves(t, text, noughts(3), []int{1, 3}, []int{2, 4}, []int{1, 3}, []int{2, 4}, []int{1, 5})
}

func TestPartnersOfASend(t *testing.T) {
	receivers := "func one(c chan int, a int) { <-c; print(a) }\n" +
		"func two(c chan int, d chan int, a int) { select { case <-c: print(a); case <-d: print(a + 1); case v := <-c: print(a + v) } }\n"
	text := inTest("c := make(chan int); d := make(chan int); go one(c, 10); go two(c, d, 20); go one(d, 30); go one(c, 40); c <- 5; stuck()") + receivers
	wantMoves(t, text, noughts(4), []int{10}, []int{20}, []int{25}, []int{40})
	text = inTest("c := make(chan int); d := make(chan int); go one(c, 10); go two(c, d, 20); go one(d, 30); select { case d <- 5: print(1); case c <- 6: print(2) }; stuck()") + receivers
	wantMoves(t, text, noughts(3), []int{1, 21}, []int{1, 30}, []int{2, 10}, []int{2, 20}, []int{2, 26})
	// Partners come by their numbers, whether they are ahead of the sender or behind it.
	text = inTest("c := make(chan int); go one(c, 10); go put(c, 5); go one(c, 30); print(<-c); stuck()") + receivers
	wantMoves(t, text, noughts(3), []int{5}, []int{10}, []int{30})
	// Sends of several goroutines, each with its partners; a receive has no move of its own.
	text = inTest("c := make(chan int); go put(c, 1); go put(c, 2); go get(c); print(<-c + 10); stuck()")
	wantMoves(t, text, noughts(3), []int{11, 2}, []int{12, 1}, []int{12, 1}, []int{11, 2})
}

func TestClausesOfOneSelectDoNotMeet(t *testing.T) {
	wantDeadlock(t, "c := make(chan int); select { case c <- 1: print(1); case <-c: print(2) }")
	wantDeadlock(t, "c := make(chan int); select { case <-c: print(1); case <-c: print(2); case c <- 1: print(3); case c <- 2: print(4) }")
	wantDone(t, "c := make(chan int); select { case c <- 1: print(1); case <-c: print(2); default: print(3) }", 3)
	// Each clause meets those of the other one.
	text := inTest("c := make(chan int); go other(c); select { case c <- 1: print(1); case c <- 2: print(2); case v := <-c: print(10 + v) }; stuck()") +
		"func other(c chan int) { select { case v := <-c: print(20 + v); case c <- 3: print(3); case v := <-c: print(30 + v) } }"
	wantMoves(t, text, noughts(1), []int{1, 21}, []int{1, 31}, []int{2, 22}, []int{2, 32}, []int{13, 3})
}

func TestBuffersOfChannels(t *testing.T) {
	wantDone(t, "c := make(chan int, 3); c <- 1; c <- 2; c <- 3; print(<-c); c <- 4; print(<-c); print(<-c); print(<-c)", 1, 2, 3, 4)
	wantDeadlock(t, "c := make(chan int, 1); c <- 1; print(1); c <- 2; print(2)", 1)
	wantDeadlock(t, "c := make(chan int, 1); print(<-c)")
	wantDeadlock(t, "c := make(chan int); print(<-c)")
	wantDeadlock(t, "c := make(chan int); c <- 1")
	// Two that wait at a channel with a buffer do not meet past it.
	text := inTest("c := make(chan int, 1); go put(c, 1); go put(c, 2); go get(c); stuck()")
	wantMoves(t, text, noughts(3), []int{1}, []int{2})
	wantMoves(t, text, noughts(4), []int{1})
	r := ran(t, text, nil, 100)
	if !slices.Equal(r.Widths, []int{1, 2, 3, 2, 1, 2, 1}) {
		// The third go is beside two sends that find room; then one send takes it.
		t.Errorf("%s has the widths %v", text, r.Widths)
	}
}

func TestClosedChannels(t *testing.T) {
	wantDone(t, "c := make(chan int); close(c); print(<-c); print(<-c)", 0, 0)
	wantDone(t, "c := make(chan int, 3); c <- 7; c <- 8; close(c); print(<-c); print(<-c); print(<-c); print(<-c)", 7, 8, 0, 0)
	wantDone(t, "c := make(chan int); close(c); select { case v := <-c: print(v + 1); default: print(2) }", 1)
	for _, c := range []string{"make(chan int)", "make(chan int, 2)"} {
		wantCrash(t, "c := "+c+"; close(c); print(1); close(c); print(2)", impl.PnClosed, 0, 1)
		wantCrash(t, "c := "+c+"; close(c); print(1); c <- 1; print(2)", impl.PnSend, 0, 1)
		wantCrash(t, "c := "+c+"; close(c); select { case c <- 1: print(1); default: print(2) }", impl.PnSend, 0)
		wantCrash(t, "c := "+c+"; d := c; close(d); close(c)", impl.PnClosed, 0)
	}
	wantCrash(t, "c := make(chan int, 1); c <- 1; close(c); c <- 2", impl.PnSend, 0)
	// Those that wait see the close.
	wantEnd(t, inTest("c := make(chan int); go get(c); close(c); stuck()"), []int{0, 0, 0}, [3]int{impl.OtDeadlock}, 0)
	wantEnd(t, inTest("c := make(chan int); go put(c, 1); close(c); stuck()"), nil, crash(impl.PnSend, 0))
	wantEnd(t, inTest("c := make(chan int, 1); c <- 1; go put(c, 1); close(c); stuck()"), nil, crash(impl.PnSend, 0))
	// Once it is closed a send and a receive meet no more: each has its own move.
	text := inTest("c := make(chan int); go both(c, 1); go both(c, 2); close(c); stuck()") + "func both(c chan int, a int) { defer show(a); select { case <-c: print(a + 10); case c <- 1: print(a + 20) } }"
	wantMoves(t, text, []int{0, 0, 0}, []int{11, 1, 12, 2}, []int{1}, []int{11, 1, 12, 2}, []int{11, 1, 2})
}

func TestDefaultsAsMoves(t *testing.T) {
	choose := "func choose(c chan int, a int) { select { default: print(a); case <-c: print(a + 1); } }\n"
	offer := "func offer(c chan int, a int) { select { case c <- a: print(a + 1); default: print(a) } }\n"
	// Alone it is a move, beside a clause that is a move, or part of one, it is none.
	wantDone(t, "c := make(chan int, 1); select { case <-c: print(1); default: print(2) }; select { case c <- 1: print(3); default: print(4) }; select { case c <- 1: print(5); default: print(6) }; select { case <-c: print(7); default: print(8) }", 2, 3, 6, 7)
	wantDone(t, "select { default: print(1) }; select { default: }; print(2)", 1, 2)
	text := inTest("c := make(chan int); go choose(c, 10); c <- 1; stuck()") + choose
	wantMoves(t, text, noughts(1), []int{11})
	text = inTest("c := make(chan int); go choose(c, 10); print(1); c <- 1; stuck()") + choose
	wantMoves(t, text, noughts(1), []int{1, 11}, []int{1, 10})
	text = inTest("c := make(chan int); go offer(c, 10); <-c; stuck()") + offer
	wantMoves(t, text, noughts(1), []int{11})
	text = inTest("c := make(chan int); go offer(c, 10); print(1); <-c; stuck()") + offer
	wantMoves(t, text, noughts(1), []int{1, 11}, []int{1, 10})
	// Two that have a default each meet, as the one's clause is a move and the other's a part of it.
	text = inTest("c := make(chan int); go offer(c, 10); choose(c, 20); stuck()") + choose + offer
	wantMoves(t, text, noughts(1), []int{21, 11})
	text = inTest("c := make(chan int); d := make(chan int); go offer(c, 10); choose(d, 20); stuck()") + choose + offer
	wantMoves(t, text, noughts(1), []int{20, 10}, []int{20, 10})
	// A buffer makes no part of another's move.
	text = inTest("c := make(chan int, 1); c <- 1; go put(c, 2); offer(c, 10); stuck()") + offer
	wantMoves(t, text, noughts(2), []int{10})
	text = inTest("c := make(chan int, 1); go get(c); choose(c, 10); stuck()") + choose
	wantMoves(t, text, noughts(1), []int{10})
	// One clause that is a part of a move is enough; and the select has no move of its own then.
	text = inTest("c := make(chan int); d := make(chan int); go put(d, 5); select { case <-c: print(1); default: print(2); case v := <-d: print(v) }; stuck()")
	wantMoves(t, text, noughts(1), []int{5})
}

func TestCasesGoOnWhereTheyStand(t *testing.T) {
	wantDone(t, "v := 1; c := make(chan int, 1); c <- 5; select { case v := <-c: print(v); v = 6; print(v) }; print(v)", 5, 6, 1)
	wantDone(t, "c := make(chan int, 1); select { case c <- 5: print(1); break; print(2) }; print(3)", 1, 3)
	wantDone(t, "i := 0; for i < 3 { i++; select { default: if i == 2 { break }; print(i) }; print(i * 10) }", 1, 10, 20, 3, 30)
	wantDone(t, "i := 0; for i < 3 { i++; select { default: if i == 2 { continue }; print(i) }; print(i * 10) }", 1, 10, 3, 30)
	wantDone(t, "i := 0; for { select { default: for { break }; i++; if i < 3 { continue }; print(i) }; break }; print(9)", 3, 9)
	wantEnd(t, inTest("print(f())")+"func f() int { c := make(chan int, 1); c <- 3; for { select { case v := <-c: return v + 1 } } }", nil, done, 4)
	wantDone(t, "c := make(chan int, 2); c <- 1; c <- 2; print(100 * <-c + 10 * sum(<-c, 5))", 170)
	wantDeadlock(t, "print(1); select {}; print(2)", 1)
	wantEnd(t, inTest("go stuck(); go stuck(); print(1)"), nil, done, 1)
}

func TestSomeMeetInTheMidstOfAnExpression(t *testing.T) {
	wantDone(t, "c := make(chan int); d := make(chan int); go put(c, 3); go put(d, 4); print(100 + <-c * 10 + <-d)", 134)
	wantEnd(t, inTest("c := make(chan int); d := make(chan int); go adds(c, d); c <- 1; c <- 2; print(<-d)")+"func adds(c chan int, d chan int) { d <- sum(<-c, <-c) * 10 }", nil, done, 30)
	wantDone(t, "c := make(chan int, 1); c <- 0; d := make(chan int); go put(d, 8); if <-c == 0 && <-d == 8 { print(1) }", 1)
}

// starting is a test that starts so many goroutines of a call, then prints.
func starting(count int, call string) string {
	return inTest("c := make(chan int); i := 0; for i < " + strconv.Itoa(count) + " { go " + call + "; i++ }; print(77)")
}

func TestMostGoroutines(t *testing.T) {
	most := impl.MaxGo - 1 // beside the test itself
	wantEnd(t, starting(most, "get(c)"), nil, done, 77)
	wantEnd(t, starting(most+1, "get(c)"), nil, crash(impl.PnGo, 0))
	wantEnd(t, strings.Replace(starting(most+1, "get(c)"), "i := 0", "defer show(5); i := 0", 1), nil, crash(impl.PnGo, 0), 5)
	// Those that are gone are there no more.
	wantEnd(t, starting(40, "idle()"), nil, done, 77)
	text := strings.Replace(starting(most+1, "get(c)"), "i++", "i++; if i == 5 { c <- 1 }", 1)
	r := ran(t, text, []int{0, 0, 0, 0, 0, 4, 1}, 200)
	if r.Kind != impl.OtDone || !slices.Equal(r.Trace, []int{1, 77}) {
		t.Errorf("%s\nends %d and prints %v", text, r.Kind, r.Trace)
	}
	// A goroutine that waits to print is there still.
	wantEnd(t, starting(most+1, "show(1)"), nil, crash(impl.PnGo, 0))
	// The panic is that of who wants to start one.
	text = starting(most, "more()") + "func more() { defer show(6); go idle() }"
	r = ran(t, text, append(noughts(most), 1, 1, 1), 200)
	if r.Kind != impl.OtPanic || r.Code != impl.PnGo || !slices.Equal(r.Trace, []int{6}) {
		t.Errorf("%s\nends %d %d and prints %v", text, r.Kind, r.Code, r.Trace)
	}
}

func TestGoWorksItsArgumentsOutAtOnce(t *testing.T) {
	wantEnd(t, inTest("x := 1; go show(x); x = 2; go show(x); x = 3; print(x); stuck()"), nil, [3]int{impl.OtDeadlock}, 3, 1, 2)
	wantEnd(t, inTest("go show(say(4) + 1); stuck()"), nil, [3]int{impl.OtDeadlock}, 4, 5)
	wantEnd(t, inTest("go show(1 / 0); stuck()"), nil, crash(impl.PnZero, 0))
	wantEnd(t, inTest("go sum(1, 2); go say(3); stuck()"), nil, [3]int{impl.OtDeadlock}, 3)
	wantEnd(t, inTest("x := 5 + sum(1, 2); go show(x); y := sum(x, x) + sum(1, 1); print(y); stuck()"), nil, [3]int{impl.OtDeadlock}, 18, 8)
}
