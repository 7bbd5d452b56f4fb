package tests

import (
	"math/rand"
	"reflect"
	"slices"
	"strconv"
	"strings"
	"testing"

	"loop.example/g00135/impl"
)

// A playwright writes programs by chance that check, and whose goroutines have much to do with one another.
type playwright struct {
	draw *rand.Rand
	left int
	// How deep a statement stands in fors, and in selects or fors.
	loops, around int
	result        int
}

func (p *playwright) one(list ...string) string { return list[p.draw.Intn(len(list))] }

// Everywhere the variables c, d, i and b can be seen.
const allParameters = "(c chan int, d chan int, i int, b bool)"

func (p *playwright) file() string {
	var text strings.Builder
	for of, result := range []string{"", " int", " bool", " chan int"} {
		p.result, p.left = of, p.draw.Intn(60)
		text.WriteString("func f" + strconv.Itoa(of) + allParameters + result + " {\n" + p.statements(2))
		if of != impl.TyNone {
			text.WriteString("return " + p.value(of, 1) + "\n")
		}
		text.WriteString("}\n")
	}
	p.result, p.left = impl.TyNone, 60+p.draw.Intn(100)
	text.WriteString("func TestA() {\nc := " + p.channel() + "; d := " + p.channel() + "; i := " + p.one("0", "1", "2", "5") + "; b := " + p.one("true", "false") + "\n")
	for range p.draw.Intn(5) {
		text.WriteString("go f" + strconv.Itoa(p.draw.Intn(4)) + p.arguments(0) + "\n")
	}
	text.WriteString(p.statements(3) + p.statements(3) + p.statements(2) + "}\n")
	return text.String()
}

func (p *playwright) channel() string {
	return p.one("make(chan int)", "make(chan int)", "make(chan int, 1)", "make(chan int, 2)")
}

func (p *playwright) statements(deep int) string {
	var text strings.Builder
	for range 1 + p.draw.Intn(5) {
		if p.left > 0 {
			text.WriteString(p.statement(deep) + "\n")
		}
	}
	return text.String()
}

// inner is a block with a name of its own, perhaps.
func (p *playwright) inner(deep int) string {
	return "{\n" + p.one("", "", "", "i := i + 1\n", "c := d\n", "d := "+p.channel()+"\n", "b := !b\n") + p.statements(deep) + "}"
}

func (p *playwright) statement(deep int) string {
	p.left -= 5
	if deep > 0 && p.draw.Intn(5) < 2 {
		return p.nesting(deep - 1)
	}
	switch p.draw.Intn(17) {
	case 0, 1, 2:
		return p.value(impl.TyChan, 1) + " <- " + p.value(impl.TyInt, 1)
	case 3, 4:
		return "print(" + p.value(1+p.draw.Intn(2), 2) + ")"
	case 5:
		return "print(<-" + p.value(impl.TyChan, 0) + ")"
	case 6:
		return p.one("i++", "i--", "i = "+p.value(impl.TyInt, 2), "b = "+p.value(impl.TyBool, 2), "c = "+p.value(impl.TyChan, 2), "d = c")
	case 7, 8:
		return "go f" + strconv.Itoa(p.draw.Intn(4)) + p.arguments(1)
	case 9, 10:
		return "defer f" + strconv.Itoa(p.draw.Intn(4)) + p.arguments(1)
	case 11:
		return "f" + strconv.Itoa(p.draw.Intn(4)) + p.arguments(1)
	case 12:
		return "<-" + p.value(impl.TyChan, 1)
	}
	return p.rare()
}

// rare is what leaves others without anything to do.
func (p *playwright) rare() string {
	switch p.draw.Intn(8) {
	case 0:
		return "close(" + p.value(impl.TyChan, 1) + ")"
	case 1:
		return "if b { panic(" + p.value(impl.TyInt, 1) + ") }"
	case 2:
		if p.loops > 0 {
			return p.one("continue", "if "+p.value(impl.TyBool, 1)+" { continue }")
		}
	case 3:
		if p.around > 0 {
			return p.one("break", "if "+p.value(impl.TyBool, 1)+" { break }")
		}
	case 4:
		if p.result == impl.TyNone {
			return "if " + p.value(impl.TyBool, 1) + " { return }"
		}
		return "if " + p.value(impl.TyBool, 1) + " { return " + p.value(p.result, 1) + " }"
	case 5:
		return "select {}"
	}
	return "i = i + 1"
}

func (p *playwright) nesting(deep int) string {
	switch p.draw.Intn(4) {
	case 0:
		return "if " + p.value(impl.TyBool, 2) + " " + p.inner(deep) + p.one("", " else "+p.inner(deep), " else if b "+p.inner(deep)+" else "+p.inner(deep))
	case 1:
		p.loops++
		p.around++
		loop := p.one("for i < 3 {\ni++\n"+p.inner(deep)+"\n}", "for "+p.value(impl.TyBool, 1)+" "+p.inner(deep), "for "+p.inner(deep))
		p.loops--
		p.around--
		return loop
	case 2:
		return p.inner(deep)
	}
	p.around++
	text := "select {\n"
	for _, place := range p.draw.Perm(4)[:1+p.draw.Intn(4)] {
		switch place {
		case 0:
			text += "default:\n"
		case 1:
			text += "case <-" + p.value(impl.TyChan, 1) + ":\n"
		case 2:
			text += "case i := <-" + p.value(impl.TyChan, 1) + ":\n"
		case 3:
			text += "case " + p.value(impl.TyChan, 1) + " <- " + p.value(impl.TyInt, 1) + ":\n"
		}
		text += p.statements(deep)
	}
	p.around--
	return text + "}"
}

func (p *playwright) arguments(deep int) string {
	return "(" + p.value(impl.TyChan, deep) + ", " + p.value(impl.TyChan, deep) + ", " + p.value(impl.TyInt, deep) + ", " + p.value(impl.TyBool, deep) + ")"
}

func (p *playwright) value(of, deep int) string {
	p.left--
	if deep > 0 && p.draw.Intn(3) == 0 {
		return p.deepValue(of, deep-1)
	}
	switch of {
	case impl.TyInt:
		return p.one("i", "i", "0", "1", "2", "7")
	case impl.TyBool:
		return p.one("b", "b", "true", "false", "i < 3")
	}
	return p.one("c", "c", "c", "d", "d")
}

func (p *playwright) deepValue(of, deep int) string {
	if p.draw.Intn(3) == 0 {
		return "f" + strconv.Itoa(of) + p.arguments(deep)
	}
	if of == impl.TyInt {
		sign := p.one("+", "-", "*", "/", "%")
		return p.one("-"+p.value(of, 0), "<-"+p.value(impl.TyChan, deep), "("+p.value(of, deep)+" "+sign+" "+p.value(of, deep)+")")
	}
	if of == impl.TyChan {
		return p.one(p.channel(), "make(chan int, "+p.value(impl.TyInt, deep)+")")
	}
	switch p.draw.Intn(3) {
	case 0:
		return "!(" + p.value(of, deep) + ")"
	case 1:
		return "(" + p.value(of, deep) + " " + p.one("&&", "||", "==", "!=") + " (" + p.value(of, deep) + "))"
	}
	side := 1 + p.draw.Intn(2)*2
	return "(" + p.value(side, deep) + " " + p.one("==", "!=") + " " + p.value(side, deep) + ")"
}

// drawnScript is a script by chance, of any length.
func drawnScript(draw *rand.Rand) []int {
	script := make([]int, draw.Intn(60))
	for i := range script {
		script[i] = draw.Intn(1 + draw.Intn(100))
	}
	return script
}

// eachPlay calls try with programs by chance that are small enough.
func eachPlay(t *testing.T, seed int64, count int, try func(n impl.Node, text string, draw *rand.Rand)) {
	t.Helper()
	draw := rand.New(rand.NewSource(seed))
	small := 0
	for range count {
		text := (&playwright{draw: draw}).file()
		n, code, at := impl.Parse(text)
		if code == impl.ErrMany || code == impl.ErrDeep {
			continue
		}
		if code != impl.OK {
			t.Fatalf("%s\nhas code %d at %d", text, code, at)
		}
		if code, at := impl.Check(n); code != impl.OK {
			t.Fatalf("%s\nhas code %d at %d", text, code, at)
		}
		small++
		try(n, text, draw)
	}
	if small < count*3/4 {
		t.Errorf("only %d of %d programs are small enough", small, count)
	}
}

// sameRun holds runs against each other, an empty list being nil.
func sameRun(a, b impl.Run) bool {
	return a.Kind == b.Kind && a.Code == b.Code && a.Value == b.Value && slices.Equal(a.Trace, b.Trace) && slices.Equal(a.Picks, b.Picks) && slices.Equal(a.Widths, b.Widths)
}

func TestRunsAreThoseOfTheSecondWay(t *testing.T) {
	ends := map[[2]int]int{}
	wide, longest := 0, 0
	eachPlay(t, 17, 12000, func(n impl.Node, text string, draw *rand.Rand) {
		for range 3 {
			script, steps := drawnScript(draw), 1+draw.Intn(1+draw.Intn(400))
			r, code := impl.RunTest(n, "TestA", script, steps)
			want := secondRun(n, "TestA", script, steps)
			if code != impl.OK || !sameRun(r, want) {
				t.Fatalf("%s\nby %v and %d steps is %v, not %v", text, script, steps, r, want)
			}
			ends[[2]int{r.Kind, r.Code}]++
			longest = max(longest, len(r.Picks))
			if len(r.Widths) > 0 && slices.Max(r.Widths) > 2 {
				wide++
			}
		}
	})
	for _, end := range [][2]int{{impl.OtDone}, {impl.OtDeadlock}, {impl.OtBudget}, {impl.OtPanic, impl.PnZero}, {impl.OtPanic, impl.PnClosed}, {impl.OtPanic, impl.PnSend}, {impl.OtPanic, impl.PnMake}, {impl.OtPanic, impl.PnUser}, {impl.OtPanic, impl.PnDeep}, {impl.OtPanic, impl.PnGo}} {
		if ends[end] < 50 {
			t.Errorf("only %d runs end as %v", ends[end], end)
		}
	}
	if wide < 2000 || longest < 100 {
		t.Errorf("only %d runs have more than two moves to pick from, and the longest has %d", wide, longest)
	}
}

// Promise 5.
func TestRunsAreRepeatedByTheirPicks(t *testing.T) {
	eachPlay(t, 18, 6000, func(n impl.Node, text string, draw *rand.Rand) {
		script, steps := drawnScript(draw), 1+draw.Intn(200)
		r, _ := impl.RunTest(n, "TestA", script, steps)
		other := slices.Clone(r.Picks)
		for i := range other {
			other[i] += r.Widths[i] * draw.Intn(1000)
		}
		for _, again := range [][]int{script, r.Picks, other, append(slices.Clone(r.Picks), 5, 0, 7)} {
			if repeated, code := impl.RunTest(n, "TestA", again, steps); code != impl.OK || !reflect.DeepEqual(repeated, r) {
				t.Fatalf("%s\nby %v is %v, but by %v it is %v", text, script, r, again, repeated)
			}
		}
		more, _ := impl.RunTest(n, "TestA", script, steps+1+draw.Intn(impl.MaxSteps-steps))
		if r.Kind != impl.OtBudget && !reflect.DeepEqual(more, r) {
			t.Fatalf("%s\nby %d steps is %v, by more %v", text, steps, r, more)
		}
		wantBeginning(t, text, r, more)
	})
}

// Trees that were written for their types alone are run as well, all their tests.
func TestTypedTreesAreRun(t *testing.T) {
	draw := rand.New(rand.NewSource(19))
	runs := 0
	for range 30000 {
		n := (&typist{draw: draw, left: 20 + draw.Intn(150)}).file()
		names, _ := impl.TestsOf(n)
		for _, test := range names {
			script, steps := drawnScript(draw), 1+draw.Intn(150)
			r, code := impl.RunTest(n, test, script, steps)
			if want := secondRun(n, test, script, steps); code != impl.OK || !sameRun(r, want) {
				text, _ := impl.Print(n)
				t.Fatalf("%s\n%s by %v and %d steps is %v, not %v", text, test, script, steps, r, want)
			}
			runs++
		}
	}
	if runs < 1000 {
		t.Errorf("only %d runs", runs)
	}
}

// Programs of which some things were changed are run just where they check still.
func TestAnyTreeIsRunOrHasACode(t *testing.T) {
	codes := map[int]int{}
	eachPlay(t, 20, 4000, func(n impl.Node, text string, draw *rand.Rand) {
		for range 1 + draw.Intn(2) {
			spoil(&n, draw)
		}
		script, steps := drawnScript(draw), 1+draw.Intn(100)
		r, code := impl.RunTest(n, "TestA", script, steps)
		codes[code]++
		want, _ := impl.Check(n)
		if names, _ := impl.TestsOf(n); want == impl.OK && !slices.Contains(names, "TestA") {
			want = impl.ErrName
		}
		switch {
		case code != want:
			t.Fatalf("%s\nhas code %d, not %d", show(n), code, want)
		case code != impl.OK && !sameRun(r, impl.Run{}):
			t.Fatalf("%s\nhas %v beside code %d", show(n), r, code)
		case code == impl.OK && !sameRun(r, secondRun(n, "TestA", script, steps)):
			t.Fatalf("%s\nby %v and %d steps is %v", show(n), script, steps, r)
		}
	})
	if codes[impl.OK] < 100 || codes[impl.ErrBad] < 1000 || codes[impl.ErrName] < 100 {
		t.Error("trees by code:", codes)
	}
}
