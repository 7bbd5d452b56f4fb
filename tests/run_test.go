package tests

import (
	"math"
	"slices"
	"strconv"
	"strings"
	"testing"

	"loop.example/g00135/impl"
)

// tools are functions that tests may call.
const tools = `
func say(a int) int { print(a); return a }
func sayIf(a int, b bool) bool { print(a); return b }
func sayPipe(a int, c chan int) chan int { print(a); return c }
func show(a int) { print(a) }
func fail(a int) { panic(a) }
func sum(a int, b int) int { return a + b }
func put(c chan int, a int) { c <- a }
func get(c chan int) { print(<-c) }
func shut(c chan int) { close(c) }
func idle() {}
func stuck() { select {} }
`

// inTest is the text of a test of that body, and of the tools.
func inTest(body string) string {
	return "func TestA() {\n" + body + "\n}\n" + tools
}

// ran is the run of a text's TestA.
func ran(t *testing.T, text string, script []int, steps int) impl.Run {
	t.Helper()
	r, code := impl.RunTest(treeOf(t, text), "TestA", script, steps)
	if code != impl.OK {
		t.Fatalf("RunTest of %s has code %d", text, code)
	}
	if len(r.Picks) != len(r.Widths) || len(r.Picks) > steps || len(r.Trace) > len(r.Picks) {
		t.Errorf("RunTest of %s has %d picks, %d widths and %d prints by %d steps", text, len(r.Picks), len(r.Widths), len(r.Trace), steps)
	}
	for i, pick := range r.Picks {
		drawn := 0
		if i < len(script) {
			drawn = script[i]
		}
		if pick != drawn%r.Widths[i] {
			t.Errorf("RunTest of %s by %v has the picks %v of %v", text, script, r.Picks, r.Widths)
			break
		}
	}
	return r
}

// wantEnd asks for how the run of a text's TestA ends, and for what it prints.
func wantEnd(t *testing.T, text string, script []int, end [3]int, trace ...int) {
	t.Helper()
	r := ran(t, text, script, 1000)
	if [3]int{r.Kind, r.Code, r.Value} != end || !slices.Equal(r.Trace, trace) {
		t.Errorf("%s\nby %v ends %d %d %d and prints %v, not %v and %v", text, script, r.Kind, r.Code, r.Value, r.Trace, end, trace)
	}
}

var done = [3]int{impl.OtDone}

func crash(code, value int) [3]int { return [3]int{impl.OtPanic, code, value} }

// wantDone asks that a body is done, and for what it prints.
func wantDone(t *testing.T, body string, trace ...int) {
	t.Helper()
	wantEnd(t, inTest(body), nil, done, trace...)
}

// wantCrash asks that a body crashes, and for what it prints.
func wantCrash(t *testing.T, body string, code, value int, trace ...int) {
	t.Helper()
	wantEnd(t, inTest(body), nil, crash(code, value), trace...)
}

// wantDeadlock asks that a body has no move at last, and for what it prints.
func wantDeadlock(t *testing.T, body string, trace ...int) {
	t.Helper()
	wantEnd(t, inTest(body), nil, [3]int{impl.OtDeadlock}, trace...)
}

func wantCode(t *testing.T, n impl.Node, test string, script []int, steps, want int) {
	t.Helper()
	r, code := impl.RunTest(n, test, script, steps)
	if code != want {
		t.Errorf("RunTest of %.30q with %d numbers and %d steps has code %d, not %d", test, len(script), steps, code, want)
	}
	if isZero := r.Kind == 0 && r.Code == 0 && r.Value == 0 && len(r.Trace)+len(r.Picks)+len(r.Widths) == 0; isZero != (code != impl.OK) {
		t.Errorf("RunTest has %v beside code %d", r, code)
	}
}

// Of what is wrong with a call the first in the order of the document is told.
func TestCodesOfARunInTheirOrder(t *testing.T) {
	bad, untyped, right := node(impl.NdBlock), treeOf(t, "func TestA() { print(x) }"), treeOf(t, inTest("print(1)"))
	long, longList := strings.Repeat("T", impl.MaxText+1), make([]int, impl.MaxList+1)
	for _, steps := range []int{-1, 0, impl.MaxSteps + 1, 5} {
		for _, script := range [][]int{nil, {-1}, {5, 5, 5, 5, -1}} {
			for _, test := range []string{"TestA", "show", "TestB", ""} {
				wantCode(t, bad, test, script, steps, impl.ErrBad)
				wantCode(t, bad, test, longList, steps, impl.ErrLong)
				wantCode(t, untyped, test, script, steps, impl.ErrName)
				wantCode(t, untyped, test, longList, steps, impl.ErrLong)
				wantCode(t, right, test, longList, steps, impl.ErrLong)
				switch {
				case test != "TestA":
					wantCode(t, right, test, script, steps, impl.ErrName)
				case steps != 5 || len(script) > 0:
					wantCode(t, right, test, script, steps, impl.ErrRange)
				default:
					wantCode(t, right, test, script, steps, impl.OK)
				}
			}
			for _, n := range []impl.Node{bad, untyped, right, {}} {
				wantCode(t, n, long, script, steps, impl.ErrLong)
				wantCode(t, n, long, longList, steps, impl.ErrLong)
			}
		}
	}
}

func TestEachCodeOfCheckIsOneOfARun(t *testing.T) {
	codes := map[int]int{}
	for _, n := range callTrees() {
		if code, _ := impl.Check(n); code != impl.OK {
			codes[code]++
			wantCode(t, n, "TestA", []int{-1}, 0, code)
		}
	}
	for _, code := range []int{impl.ErrBad, impl.ErrName, impl.ErrTwice, impl.ErrType, impl.ErrCount, impl.ErrResult, impl.ErrPlace} {
		if codes[code] == 0 {
			t.Errorf("no tree has code %d", code)
		}
	}
}

func TestOnlyTestsAreRun(t *testing.T) {
	n := treeOf(t, "func Test() {}\nfunc TestB(a int) {}\nfunc TestC() int { return 1 }\nfunc test() {}\nfunc TestD() {}\nfunc aTest() {}")
	for test, code := range map[string]int{
		"Test": impl.OK, "TestD": impl.OK, "TestB": impl.ErrName, "TestC": impl.ErrName, "test": impl.ErrName, "aTest": impl.ErrName,
		"Te": impl.ErrName, "TestD ": impl.ErrName, "": impl.ErrName, "\xff": impl.ErrName, strings.Repeat("T", impl.MaxText): impl.ErrName,
	} {
		wantCode(t, n, test, nil, 5, code)
	}
	wantCode(t, node(impl.NdFile), "TestA", nil, 5, impl.ErrName)
}

func TestStepsAndScriptsWithinTheirBounds(t *testing.T) {
	n := treeOf(t, inTest("print(1); print(2)"))
	for _, steps := range []int{math.MinInt, -1, 0, impl.MaxSteps + 1, math.MaxInt} {
		wantCode(t, n, "TestA", nil, steps, impl.ErrRange)
	}
	for _, steps := range []int{1, 2, impl.MaxSteps} {
		wantCode(t, n, "TestA", nil, steps, impl.OK)
	}
	for _, script := range [][]int{{-1}, {math.MinInt}, {0, -1}, {0, 0, 0, 0, 0, -1}, append(make([]int, impl.MaxList-1), -1)} {
		wantCode(t, n, "TestA", script, 100, impl.ErrRange)
	}
	for _, script := range [][]int{nil, {}, {0}, {math.MaxInt, math.MaxInt}, make([]int, impl.MaxList)} {
		wantCode(t, n, "TestA", script, 100, impl.OK)
	}
}

// Of two goroutines that want to print, each number of the script picks one.
func TestTheScriptPicksByWhatIsLeftOver(t *testing.T) {
	text := inTest("c := make(chan int); go show(1); go show(2); go show(3); <-c")
	for _, c := range []struct{ script, trace []int }{
		{nil, []int{1, 2, 3}},
		{[]int{0, 0, 0}, []int{1, 2, 3}},
		{[]int{0, 0, 0, 1}, []int{2, 1, 3}},
		{[]int{0, 0, 0, 2}, []int{3, 1, 2}},
		{[]int{7, 4, 9, 5, 3, 9}, []int{3, 2, 1}},
		{[]int{0, 0, 0, 3, 2}, []int{1, 2, 3}},
		{[]int{0, 0, 0, 4, 1, 8, 9, 9, 9}, []int{2, 3, 1}},
		{[]int{0, 0, 0, math.MaxInt}, []int{2, 1, 3}},
		{[]int{0, 1}, []int{1, 2, 3}},
		{[]int{0, 1, 1, 0, 1}, []int{1, 3, 2}},
	} {
		wantEnd(t, text, c.script, [3]int{impl.OtDeadlock}, c.trace...)
	}
}

func TestExpressionsFromLeftToRight(t *testing.T) {
	wantDone(t, "print(say(1) + say(2) * say(3))", 1, 2, 3, 7)
	wantDone(t, "print((say(1) - say(2)) * (say(3) - say(5)))", 1, 2, 3, 5, 2)
	wantDone(t, "print(sum(say(1), sum(say(2), say(3))))", 1, 2, 3, 6)
	wantDone(t, "print(say(1) < say(2) == (say(3) < say(4)))", 1, 2, 3, 4, 1)
	wantDone(t, "c := make(chan int, say(1)); sayPipe(2, c) <- say(3); print(<-sayPipe(4, c))", 1, 2, 3, 4, 3)
	wantDone(t, "c := make(chan int, 1); select { case <-sayPipe(1, c): print(10); case sayPipe(2, c) <- say(3): print(11); case sayPipe(4, c) <- say(5): print(12); default: print(13) }; print(<-c)", 1, 2, 3, 4, 5, 11, 3)
	wantDone(t, "x := 1; x = x + say(5); print(x); print(-say(2)); print(!sayIf(3, true))", 5, 6, 2, -2, 3, 0)
	wantDone(t, "c := make(chan int, 2); c <- 1; c <- 2; print(<-c - <-c)", -1)
	wantCrash(t, "print(say(1) / 0 + say(2))", impl.PnZero, 0, 1)
	wantCrash(t, "print(say(1) / (say(2) - 2) + say(3))", impl.PnZero, 0, 1, 2)
	wantCrash(t, "show(sum(say(1), 1 / 0))", impl.PnZero, 0, 1)
}

func TestRightSidesThatAreLeft(t *testing.T) {
	for left := range 2 {
		for right := range 2 {
			sides := [2]string{"sayIf(1, " + strconv.FormatBool(left == 1) + ")", "sayIf(2, " + strconv.FormatBool(right == 1) + ")"}
			and, or := []int{1, 0}, []int{1, 1}
			if left == 1 {
				and = []int{1, 2, right}
			} else {
				or = []int{1, 2, right}
			}
			wantDone(t, "print("+sides[0]+" && "+sides[1]+")", and...)
			wantDone(t, "print("+sides[0]+" || "+sides[1]+")", or...)
		}
	}
	wantDone(t, "print(false && 1 / 0 == 1 || true); print(true || 1 / 0 == 1); print(1 == 2 && sayIf(3, true) || 2 == 2)", 1, 1, 1)
	wantCrash(t, "print(true && 1 / 0 == 1)", impl.PnZero, 0)
	wantCrash(t, "print(1 / 0 == 1 || true)", impl.PnZero, 0)
}

// least has the least number in m, and the greatest in g.
const least = "m := 1; i := 0; for i < 63 { m = m * 2; i++ }; g := m - 1; "

func TestWholeNumbersWrap(t *testing.T) {
	wantDone(t, least+"print(m); print(g); print(g + 1); print(m - 1); print(-m); print(m * m); print(g * g); print(g * 2); print(m / -1); print(m % -1)",
		math.MinInt, math.MaxInt, math.MinInt, math.MaxInt, math.MinInt, 0, 1, -2, math.MinInt, 0)
	wantDone(t, least+"g++; print(g); m--; print(m); print(m == g - 1); g--; print(g)", math.MinInt, math.MaxInt, 1, math.MaxInt)
	big := impl.MaxInt
	wantDone(t, "print(999999999999999999); print(999999999999999999 * 999999999999999999)", big, big*big)
}

func TestQuotientsAndRests(t *testing.T) {
	for _, c := range [][4]int{
		{7, 2, 3, 1}, {-7, 2, -3, -1}, {7, -2, -3, 1}, {-7, -2, 3, -1}, {0, 5, 0, 0}, {5, 7, 0, 5}, {-5, 7, 0, -5}, {6, 3, 2, 0}, {-6, 3, -2, 0}, {9, 1, 9, 0}, {9, -1, -9, 0},
	} {
		sides := "a := " + strconv.Itoa(c[0]) + "; b := " + strconv.Itoa(c[1]) + "; "
		wantDone(t, sides+"print(a / b); print(a % b)", c[2], c[3])
	}
	wantDone(t, least+"print(m / 2); print(m % 10); print(g / m); print(g % m); print(m / g); print(m % g)", math.MinInt/2, -8, 0, math.MaxInt, -1, -1)
	for _, body := range []string{"print(1 / 0)", "print(1 % 0)", "print(0 / 0)", "print(0 % 0)", "a := 1; b := 1; a = a / (a - b)", least + "m = m % (m - m)"} {
		wantCrash(t, body, impl.PnZero, 0)
	}
}

func TestWhatSignsDo(t *testing.T) {
	truth := map[bool]int{true: 1}
	for _, a := range []int{-3, 0, 2, 5} {
		for _, b := range []int{-4, -3, 1, 2, 5} {
			sides := "a := " + strconv.Itoa(a) + "; b := " + strconv.Itoa(b) + "; "
			wantDone(t, sides+"print(a + b); print(a - b); print(a * b); print(a / b); print(a % b)", a+b, a-b, a*b, a/b, a%b)
			wantDone(t, sides+"print(a == b); print(a != b); print(a < b); print(a <= b); print(a > b); print(a >= b)",
				truth[a == b], truth[a != b], truth[a < b], truth[a <= b], truth[a > b], truth[a >= b])
		}
	}
	wantDone(t, "print(true == false); print(true != false); print(false == false); print(!true); print(!false); print(- - 3)", 0, 1, 1, 0, 1, 3)
	wantDone(t, "c := make(chan int); d := make(chan int); e := c; print(c == d); print(c == e); print(c != d); print(e != c)", 0, 1, 1, 0)
}

func TestStatements(t *testing.T) {
	wantDone(t, "")
	wantDone(t, "x := 1; { x := 2; print(x); x = 3; print(x) }; print(x); { x = 4 }; print(x)", 2, 3, 1, 4)
	wantDone(t, "x := 1; { x := x + 1; { x := x * 5; print(x) }; print(x) }; print(x)", 10, 2, 1)
	wantDone(t, "x := 5; x++; x++; x--; print(x); b := x == 6; print(b); b = !b; print(b)", 6, 1, 0)
	wantDone(t, "if true { print(1) }; if false { print(2) }; print(3)", 1, 3)
	wantDone(t, "if false { print(1) } else { print(2) }; if true { print(3) } else { print(4) }; print(5)", 2, 3, 5)
	wantDone(t, "x := 0; for x < 4 { if x == 0 { print(10) } else if x == 1 { print(11) } else if x == 2 { print(12) } else { print(13) }; x++ }", 10, 11, 12, 13)
	wantDone(t, "x := 0; for x < 3 { y := x * 10; y++; print(y); x++ }; print(x)", 1, 11, 21, 3)
	wantDone(t, "x := 7; i := 0; for i < 3 { print(x); x := i; print(x); i++ }; print(x)", 7, 0, 7, 1, 7, 2, 7)
	wantDone(t, "for false { print(1) }; print(2)", 2)
	wantDone(t, "i := 0; for { i++; if i == 2 { continue }; if i == 5 { break }; print(i) }; print(i)", 1, 3, 4, 5)
	wantDone(t, "i := 0; for i < 3 { i++; for { if i == 2 { break }; print(i); break }; if i == 1 { continue }; print(i * 10) }", 1, 20, 3, 30)
	wantDone(t, "print(1); return; print(2)", 1)
	wantDone(t, "say(1); show(2); sum(1, 2); c := make(chan int, 1); c <- 3; <-c; print(4)", 1, 2, 4)
}

func TestCallsAndTheirResults(t *testing.T) {
	wantEnd(t, inTest("print(fact(10)); print(even(7)); print(even(8)); c := same(pipeOf(5)); print(<-c)")+
		"func fact(n int) int { if n < 2 { return 1 }; return n * fact(n - 1) }\n"+
		"func even(n int) bool { for { if n == 0 { return true }; if n == 1 { return false }; n = n - 2 } }\n"+
		"func same(c chan int) chan int { return c }\n"+
		"func pipeOf(n int) chan int { c := make(chan int, 1); c <- n; return c }\n", nil, done, 3628800, 0, 1, 5)
	wantEnd(t, inTest("a := 1; b := 2; swap(a, b); print(a); print(b)")+
		"func swap(a int, b int) { x := a; a = b; b = x; print(a); print(b) }", nil, done, 2, 1, 1, 2)
	wantEnd(t, inTest("print(100 + nested(1) * 1000 + nested(2))")+
		"func nested(a int) int { x := 10 + sum(a, a); if a == 1 { for { return x + sum(x, nested(2)) } }; return x }", nil, done, 38114)
	wantEnd(t, inTest("print(100 - drops())")+
		"func drops() int { c := make(chan int, 2); c <- 1; c <- 2; sum(3, 4); <-c; select { case <-c: }; return 5 }", nil, done, 95)
	wantEnd(t, inTest("TestB(); print(2)")+"func TestB() { print(1) }", nil, done, 1, 2)
	wantEnd(t, inTest("a := 1; loop(3, a)")+
		"func loop(n int, a int) { if n == 0 { return }; a = a * 2; b := a; loop(n - 1, a); print(a); print(b) }", nil, done, 8, 8, 4, 4, 2, 2)
}

func TestRoomOfChannels(t *testing.T) {
	// How many values a channel takes without a partner.
	count := "; n := 0; for { stop := false; select { case c <- n: n++; default: stop = true }; if stop { break } }; print(n)"
	wantDone(t, "c := make(chan int)"+count, 0)
	for _, room := range []int{0, 1, 2, 63, impl.MaxCap} {
		wantDone(t, "c := make(chan int, "+strconv.Itoa(room)+")"+count, room)
	}
	wantDone(t, "r := 2; c := make(chan int, r * 2 - 1)"+count, 3)
	for _, room := range []string{"-1", "65", "0 - 64", "1000000", "-999999999999999999"} {
		wantCrash(t, "print(1); c := make(chan int, "+room+"); c <- 1", impl.PnMake, 0, 1)
	}
	wantCrash(t, least+"c := make(chan int, m); c <- 1", impl.PnMake, 0)
}

func TestValuesOfPanics(t *testing.T) {
	for _, value := range []int{0, 1, -1, 77, impl.MaxInt, -impl.MaxInt} {
		wantCrash(t, "print(1); panic("+strconv.Itoa(value)+")", impl.PnUser, value, 1)
	}
	wantCrash(t, least+"panic(m)", impl.PnUser, math.MinInt)
	wantCrash(t, "panic(say(3) + 1)", impl.PnUser, 4, 3)
	wantCrash(t, "panic(1 / 0)", impl.PnZero, 0)
	wantEnd(t, inTest("x := sum(1, out()); print(x)")+"func out() int { panic(9) }", nil, crash(impl.PnUser, 9))
}

// down opens n+1 calls.
const down = "func down(n int) { if n > 0 { down(n - 1) } }\n"

func TestCallsThatAreOpen(t *testing.T) {
	most := strconv.Itoa(impl.MaxCalls - 2)
	more := strconv.Itoa(impl.MaxCalls - 1)
	wantEnd(t, inTest("down("+most+"); print(1); down("+most+")")+down, nil, done, 1)
	wantEnd(t, inTest("down("+more+"); print(1)")+down, nil, crash(impl.PnDeep, 0))
	wantEnd(t, inTest("c := make(chan int); go down("+most+"); go shut(c); <-c; print(1)")+down, []int{0, 0, 0, 1, 1, 1}, done, 1)
	wantEnd(t, inTest("go down("+more+"); stuck()")+down, nil, [3]int{impl.OtDeadlock})
	wantEnd(t, inTest("go down("+strconv.Itoa(impl.MaxCalls)+"); stuck()")+down, nil, crash(impl.PnDeep, 0))
	wantEnd(t, "func TestA() { TestA() }", nil, crash(impl.PnDeep, 0))
	var trace []int
	for i := range impl.MaxCalls - 1 {
		trace = append(trace, i)
	}
	wantEnd(t, "func TestA() { deep(0) }\nfunc deep(n int) { print(n); deep(n + 1) }", nil, crash(impl.PnDeep, 0), trace...)
}

// A call that was left is open no more; neither is one that panicked.
func TestCallsThatAreOpenNoMore(t *testing.T) {
	wantDone(t, "i := 0; for i < 200 { idle(); i++ }; print(i)", 200)
	text := "func TestA() { defer again(); down(59) }\nfunc again() { print(1); defer show(2); down(57) }\nfunc show(a int) { print(a) }\n" + down
	wantEnd(t, text, nil, crash(impl.PnDeep, 0), 1, 2)
	wantEnd(t, strings.ReplaceAll(text, "down(59)", "down(58)"), nil, done, 1, 2)
	wantEnd(t, strings.ReplaceAll(text, "down(57)", "down(58)"), nil, crash(impl.PnDeep, 0), 1, 2)
}

// A deferred call is done however many are open; in it each call is one too many then.
func TestDeferredCallsAreCountedAsOpen(t *testing.T) {
	wantEnd(t, "func TestA() { defer down(58) }\n"+down, nil, done)
	wantEnd(t, "func TestA() { defer down(59) }\n"+down, nil, crash(impl.PnDeep, 0))
	wantEnd(t, "func TestA() { defer outer() }\nfunc outer() { defer down(57) }\n"+down, nil, done)
	wantEnd(t, "func TestA() { defer outer() }\nfunc outer() { defer down(58) }\n"+down, nil, crash(impl.PnDeep, 0))
	deepest := "func TestA() { down(58) }\nfunc down(n int) { if n > 0 { down(n - 1) } else { defer last(); print(1) } }\nfunc idle() {}\n"
	wantEnd(t, deepest+"func last() { print(2) }", nil, done, 1, 2)
	wantEnd(t, deepest+"func last() { print(2); idle() }", nil, crash(impl.PnDeep, 0), 1, 2)
	wantEnd(t, "func TestA() { chain(100) }\nfunc chain(n int) { if n > 0 { defer chain(n - 1) } else { print(7) } }", nil, done, 7)
	wantEnd(t, "func TestA() { chain(100) }\nfunc chain(n int) { if n > 0 { defer chain(n - 1) } else { chain(0) } }", nil, crash(impl.PnDeep, 0))
}
