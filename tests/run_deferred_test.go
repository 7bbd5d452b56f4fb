package tests

import (
	"testing"

	"loop.example/g00135/impl"
)

func TestDeferredCallsTheLastOneFirst(t *testing.T) {
	wantDone(t, "defer show(1); defer show(2); defer show(3); print(0)", 0, 3, 2, 1)
	wantDone(t, "i := 0; for i < 4 { defer show(i); i++ }; print(9)", 9, 3, 2, 1, 0)
	wantDone(t, "if false { defer show(1) }; if true { defer show(2) }; { defer show(3) }; print(0)", 0, 3, 2)
	wantDone(t, "defer show(1); if true { return }; defer show(2)", 1)
	wantDone(t, "defer say(1); defer sum(1, 2); defer idle(); print(0)", 0, 1)
	wantEnd(t, inTest("defer outer(1); defer outer(4); print(0)")+"func outer(a int) { defer show(a); defer inner(a + 1); print(a * 10) }\nfunc inner(a int) { defer show(a * 100); print(a) }", nil, done,
		0, 40, 5, 500, 4, 10, 2, 200, 1)
}

func TestArgumentsOfDeferredCallsAreWorkedOutAtOnce(t *testing.T) {
	wantDone(t, "x := 1; defer show(x); x = 2; defer show(x); x++; print(x)", 3, 2, 1)
	wantDone(t, "defer show(say(5)); print(6)", 5, 6, 5)
	wantEnd(t, inTest("defer both(say(1), sayIf(2, true), sayPipe(3, make(chan int))); defer show(say(4)); print(5)")+
		"func both(a int, b bool, c chan int) { print(a); print(b) }", nil, done, 1, 2, 3, 4, 5, 4, 1, 1)
	wantCrash(t, "defer show(1); defer show(1 / 0); print(2)", impl.PnZero, 0, 1)
	wantDone(t, "c := make(chan int, 1); c <- 7; defer show(<-c); c <- 8; print(<-c)", 8, 7)
	wantDone(t, "defer show(sum(1, 2)); x := sum(10, 20) + sum(30, 40); print(x)", 100, 3)
}

func TestDeferredCallsBehindAReturn(t *testing.T) {
	wantEnd(t, inTest("print(f(1)); print(f(2))")+"func f(a int) int { defer show(a + 10); a = a * 3; return say(a) }", nil, done, 3, 11, 3, 6, 12, 6)
	wantEnd(t, inTest("c := make(chan int, 1); c <- 1; print(100 * f(c) + <-c)")+"func f(c chan int) int { defer put(c, 5); return <-c }", nil, done, 105)
	wantEnd(t, inTest("x := 1 + f() * f(); print(x)")+"func f() int { defer idle(); defer sum(3, 4); for { if true { return 7 } } }", nil, done, 50)
	wantEnd(t, inTest("f(); print(2)")+"func f() { defer show(1); return }", nil, done, 1, 2)
	wantEnd(t, inTest("print(f())")+"func f() bool { defer g(); return true }\nfunc g() bool { return false }", nil, done, 1)
}

func TestDeferredCallsInAPanic(t *testing.T) {
	wantCrash(t, "defer show(1); defer show(2); panic(3); defer show(4)", impl.PnUser, 3, 2, 1)
	wantCrash(t, "defer show(1); x := 0; print(1 / x)", impl.PnZero, 0, 1)
	wantCrash(t, "defer show(1); c := make(chan int); close(c); close(c)", impl.PnClosed, 0, 1)
	wantCrash(t, "defer show(1); c := make(chan int, 3); close(c); c <- 1", impl.PnSend, 0, 1)
	wantCrash(t, "defer show(1); c := make(chan int, 65); c <- 1", impl.PnMake, 0, 1)
	wantCrash(t, "defer show(1); x := 5 + sum(1, 2 * (3 - 4 / (say(2) - 2))); print(x)", impl.PnZero, 0, 2, 1)
	wantCrash(t, "c := make(chan int, 1); defer get(c); defer put(c, 5); panic(1)", impl.PnUser, 1, 5)
}

func TestPanicsOfDeferredCalls(t *testing.T) {
	// In a function that returns, and in one that panics.
	wantCrash(t, "defer fail(3); print(1)", impl.PnUser, 3, 1)
	wantCrash(t, "defer fail(2); panic(1)", impl.PnUser, 2)
	wantCrash(t, "defer fail(2); print(1 / 0)", impl.PnUser, 2)
	wantEnd(t, inTest("defer shutTwice(make(chan int)); panic(1)")+"func shutTwice(c chan int) { close(c); close(c) }", nil, crash(impl.PnClosed, 0))
	// Those that are left are done none the less; the last panic counts.
	wantCrash(t, "defer show(1); defer fail(2); defer show(3); print(4)", impl.PnUser, 2, 4, 3, 1)
	wantCrash(t, "defer show(1); defer fail(2); defer show(3); panic(4)", impl.PnUser, 2, 3, 1)
	wantCrash(t, "defer show(1); defer fail(2); defer show(3); defer fail(4); defer show(5); panic(6)", impl.PnUser, 2, 5, 3, 1)
	wantCrash(t, "defer fail(1); defer fail(2); defer fail(3)", impl.PnUser, 1)
	// A value of a panic goes with it: that of one ahead is not kept.
	wantEnd(t, inTest("defer zero(); panic(7)")+"func zero() { print(1 / 0) }", nil, crash(impl.PnZero, 0))
	// The function's own deferred calls are done in it.
	wantEnd(t, inTest("defer show(1); defer outer(); print(0)")+"func outer() { defer show(2); panic(3) }", nil, crash(impl.PnUser, 3), 0, 2, 1)
	wantEnd(t, inTest("defer show(1); defer outer(); panic(9)")+"func outer() { defer fail(4); panic(3) }", nil, crash(impl.PnUser, 4), 1)
}

func TestAFunctionWhoseDeferredCallPanicsAnswersNothing(t *testing.T) {
	wantEnd(t, inTest("defer show(1); print(f()); print(2)")+"func f() int { defer fail(3); return say(4) }", nil, crash(impl.PnUser, 3), 4, 1)
	wantEnd(t, inTest("f(); print(2)")+"func f() { defer show(5); defer fail(3); print(4) }", nil, crash(impl.PnUser, 3), 4, 5)
}

func TestPanicsGoOnInTheCaller(t *testing.T) {
	text := inTest("defer show(1); outer(2); print(3)") +
		"func outer(a int) { defer show(a); inner(4); print(5) }\nfunc inner(a int) { defer show(a); x := 1 + bad(6); print(x) }\nfunc bad(a int) int { defer show(a); panic(7); return 8 }"
	wantEnd(t, text, nil, crash(impl.PnUser, 7), 6, 4, 2, 1)
	// One that a deferred call on the way takes the place of.
	text = inTest("defer show(1); outer(); print(2)") + "func outer() { defer show(3); defer fail(4); inner(); print(5) }\nfunc inner() { defer show(6); panic(7) }"
	wantEnd(t, text, nil, crash(impl.PnUser, 4), 6, 3, 1)
	// A call in a deferred one that is done while its function panics goes on as any other.
	text = inTest("defer outer(); panic(1)") + "func outer() { defer show(sum(1, 1)); print(sum(say(3), say(4))) }"
	wantEnd(t, text, nil, crash(impl.PnUser, 1), 3, 4, 7, 2)
}

func TestPanicsOfOtherGoroutines(t *testing.T) {
	// The crash is a move of its own: ahead of it the others go on.
	text := inTest("go failLate(5); print(1); print(2)") + "func failLate(a int) { defer show(a); panic(a + 1) }"
	wantEnd(t, text, nil, done, 1, 2)
	wantEnd(t, text, []int{0, 1, 1}, crash(impl.PnUser, 6), 5)
	wantEnd(t, text, []int{0, 1, 0, 1}, crash(impl.PnUser, 6), 5, 1)
	wantEnd(t, text, []int{0, 0, 1, 0, 1}, crash(impl.PnUser, 6), 1, 5, 2)
	wantEnd(t, text, []int{0, 0, 1, 0, 0}, done, 1, 5, 2)
	text = inTest("go inner(); stuck()") + "func inner() { defer show(1); fail(2); print(3) }"
	wantEnd(t, text, nil, crash(impl.PnUser, 2), 1)
	// Of two crashes that are due the one that is picked counts.
	text = inTest("go fail(1); go fail(2); panic(3)")
	wantEnd(t, text, nil, crash(impl.PnUser, 3))
	wantEnd(t, text, []int{0, 0, 1}, crash(impl.PnUser, 1))
	wantEnd(t, text, []int{0, 0, 2}, crash(impl.PnUser, 2))
	wantEnd(t, text, []int{0, 1}, crash(impl.PnUser, 1))
}

func TestEndsOfGoroutines(t *testing.T) {
	// A goroutine other than 0 has no move at its end, but its deferred calls are done.
	text := inTest("go ends(1); print(5)") + "func ends(a int) { defer show(a) }"
	wantEnd(t, text, nil, done, 5)
	wantEnd(t, text, []int{0, 1}, done, 1, 5)
	wantEnd(t, text, []int{0, 0, 1}, done, 5, 1)
	// The test is done whatever the others do; they go on as long as its end is not picked.
	text = inTest("go show(1); go put(make(chan int), 1); go stuck(); defer show(2)")
	wantEnd(t, text, nil, done, 2)
	wantEnd(t, text, []int{0, 0, 0, 0, 1}, done, 2, 1)
	wantEnd(t, text, []int{0, 0, 0, 1}, done, 1, 2)
	// What is behind the end of goroutine 0's call alone is the test's end.
	wantEnd(t, inTest("go TestB(); stuck()")+"func TestB() { print(1) }", nil, [3]int{impl.OtDeadlock}, 1)
}

func TestDeferredCallsThatWait(t *testing.T) {
	text := inTest("c := make(chan int); go sends(c); print(<-c); print(<-c); print(3)") + "func sends(c chan int) { defer put(c, 2); c <- 1 }"
	wantEnd(t, text, nil, done, 1, 2, 3)
	text = inTest("c := make(chan int); go throws(c); print(<-c); stuck()") + "func throws(c chan int) { defer put(c, 2); panic(9) }"
	wantEnd(t, text, nil, crash(impl.PnUser, 9), 2)
	wantDeadlock(t, "defer stuck(); print(1)", 1)
	wantDeadlock(t, "defer show(2); defer stuck(); panic(1)")
}
