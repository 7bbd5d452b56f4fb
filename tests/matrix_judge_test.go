package tests

import (
	"fmt"
	"math"
	"math/rand"
	"slices"
	"testing"

	"loop.example/g00135/impl"
)

func exhaustive(list ...impl.Seen) impl.Report {
	return impl.Report{List: list, Exhaustive: true, Runs: len(list)}
}

func cutOff(list ...impl.Seen) impl.Report {
	return impl.Report{List: list, Runs: len(list)}
}

func wantVerdict(t *testing.T, what string, base, mutant impl.Report, want int, script ...int) {
	t.Helper()
	if got, gotScript := impl.Judge(base, mutant); got != want || !slices.Equal(gotScript, script) {
		t.Errorf("%s: the verdict is %d with %.200v, not %d with %.200v", what, got, gotScript, want, script)
	}
}

// wantKilled asks for a verdict that does not hang on whether the mutant is exhaustive; a base that is not makes it unknown.
func wantKilled(t *testing.T, what string, base, mutant []impl.Seen, script ...int) {
	t.Helper()
	for _, report := range []impl.Report{exhaustive(mutant...), cutOff(mutant...)} {
		wantVerdict(t, what, exhaustive(base...), report, impl.VdKilled, script...)
		wantVerdict(t, what+", without all of base", cutOff(base...), report, impl.VdUnknown)
	}
}

// wantNotKilled asks for a verdict that hangs on whether both are exhaustive.
func wantNotKilled(t *testing.T, what string, base, mutant []impl.Seen) {
	t.Helper()
	wantVerdict(t, what, exhaustive(base...), exhaustive(mutant...), impl.VdSurvived)
	wantVerdict(t, what+", without all of the mutant", exhaustive(base...), cutOff(mutant...), impl.VdUnknown)
	wantVerdict(t, what+", without all of base", cutOff(base...), exhaustive(mutant...), impl.VdUnknown)
	wantVerdict(t, what+", without all of both", cutOff(base...), cutOff(mutant...), impl.VdUnknown)
}

func TestConstantsOfTheMatrix(t *testing.T) {
	if got := [4]int{impl.MaxRows, impl.VdUnknown, impl.VdKilled, impl.VdSurvived}; got != [4]int{120, 0, 1, 2} {
		t.Error("the constants are", got)
	}
}

func TestVerdictsByListsAndWhetherTheyAreAll(t *testing.T) {
	a, b, c := seen(done, []int{1}, []int{0, 0}), seen(done, []int{2}, []int{0, 1}), seen(crash(impl.PnUser, 3), []int{1}, []int{4, 5, 6})
	list := func(all ...impl.Seen) []impl.Seen { return all }
	wantNotKilled(t, "nothing in both", nil, nil)
	wantNotKilled(t, "empty lists", []impl.Seen{}, []impl.Seen{})
	wantNotKilled(t, "nothing in the mutant", list(a, b), nil)
	wantNotKilled(t, "the same", list(a), list(a))
	wantNotKilled(t, "the same in another order", list(a, b, c), list(c, a, b))
	wantNotKilled(t, "the same twice", list(a, b), list(b, b, a, b))
	wantNotKilled(t, "some of base", list(a, b, c), list(c))
	wantNotKilled(t, "one of base that stands there twice", list(a, a), list(a))
	wantKilled(t, "nothing in base", nil, list(a), 0, 0)
	wantKilled(t, "nothing in base, and several", []impl.Seen{}, list(c, a, b), 4, 5, 6)
	wantKilled(t, "one more, first", list(a, b), list(c, a, b), 4, 5, 6)
	wantKilled(t, "one more, last", list(a, b), list(b, a, c), 4, 5, 6)
	wantKilled(t, "one more, in the middle", list(a, c), list(a, b, c), 0, 1)
	wantKilled(t, "two more", list(c), list(c, b, a), 0, 1)
	wantKilled(t, "two more, the other way round", list(c), list(a, c, b), 0, 0)
	wantKilled(t, "another one alone", list(a, b), list(c), 4, 5, 6)
}

// The first in the list counts, not that of the least script, nor the first of two that are alike.
func TestTheFirstScriptIsThatOfAVerdict(t *testing.T) {
	base := []impl.Seen{seen(done, []int{1}, []int{0})}
	wantKilled(t, "scripts that fall", base, []impl.Seen{seen(done, []int{3}, []int{9, 9}), seen(done, []int{2}, []int{0})}, 9, 9)
	wantKilled(t, "alike ones", base, []impl.Seen{seen(done, []int{3}, []int{7}), seen(done, []int{3}, []int{0})}, 7)
	wantKilled(t, "an empty script", base, []impl.Seen{seen(deadlock, nil, nil), seen(done, []int{3}, []int{0})})
	wantKilled(t, "any numbers", base, []impl.Seen{seen(deadlock, nil, []int{-1, math.MaxInt, math.MinInt})}, -1, math.MaxInt, math.MinInt)
	wantKilled(t, "a long script", base, []impl.Seen{seen(deadlock, nil, places(impl.MaxList+3))}, places(impl.MaxList+3)...)
	// That the script is one of base's says nothing.
	wantKilled(t, "a script that base has", base, []impl.Seen{seen(done, []int{2}, []int{0})}, 0)
}

func TestEachThingThatMakesAnObservationAnother(t *testing.T) {
	plain := impl.Seen{Kind: 2, Code: 5, Value: -7, Trace: []int{1, 12, 3}, Script: []int{8}}
	change := func(with func(*impl.Seen)) []impl.Seen {
		other := plain
		other.Trace = slices.Clone(plain.Trace)
		with(&other)
		return []impl.Seen{other}
	}
	base := []impl.Seen{plain}
	for what, with := range map[string]func(*impl.Seen){
		"Kind": func(s *impl.Seen) { s.Kind = 1 }, "Code": func(s *impl.Seen) { s.Code = 4 }, "Value": func(s *impl.Seen) { s.Value = 7 },
		"a number of Trace": func(s *impl.Seen) { s.Trace[2] = 4 }, "a shorter Trace": func(s *impl.Seen) { s.Trace = s.Trace[:2] }, "a longer Trace": func(s *impl.Seen) { s.Trace = append(s.Trace, 0) },
		"no Trace": func(s *impl.Seen) { s.Trace = nil }, "the same digits": func(s *impl.Seen) { s.Trace = []int{11, 2, 3} }, "another order": func(s *impl.Seen) { s.Trace = []int{12, 1, 3} },
	} {
		wantKilled(t, what, base, change(with), 8)
		wantKilled(t, what+", the other way round", change(with), base, 8)
	}
	for what, with := range map[string]func(*impl.Seen){
		"nothing": func(s *impl.Seen) {}, "Script alone": func(s *impl.Seen) { s.Script = []int{1, 2, 3} }, "no Script": func(s *impl.Seen) { s.Script = nil },
	} {
		wantNotKilled(t, what, base, change(with))
	}
	wantNotKilled(t, "a Trace that is empty or nil", []impl.Seen{{Kind: 1, Trace: []int{}}}, []impl.Seen{{Kind: 1}})
	far := impl.Seen{Kind: math.MinInt, Code: math.MaxInt, Value: math.MinInt, Trace: []int{math.MaxInt, math.MinInt}}
	wantNotKilled(t, "any numbers", []impl.Seen{{}, far}, []impl.Seen{far, {}})
	wantKilled(t, "any numbers", []impl.Seen{{}}, []impl.Seen{far})
}

// How many runs there were has no part in a verdict, and observations need not be such as runs have.
func TestVerdictsDoNotHangOnRuns(t *testing.T) {
	for _, runs := range []int{math.MinInt, -1, 0, 1, 301, math.MaxInt} {
		base, other := impl.Report{Exhaustive: true, Runs: runs}, impl.Report{Runs: runs, List: []impl.Seen{{Kind: impl.OtBudget, Script: []int{1}}}}
		wantVerdict(t, "another one", base, other, impl.VdKilled, 1)
		wantVerdict(t, "nothing", base, impl.Report{Runs: -runs}, impl.VdUnknown)
		wantVerdict(t, "nothing at all", base, impl.Report{Runs: -runs, Exhaustive: true}, impl.VdSurvived)
		wantVerdict(t, "no base", impl.Report{Runs: runs}, other, impl.VdUnknown)
	}
}

// The lists of a report may be longer than lists that are handed in.
func TestVerdictsOfLongLists(t *testing.T) {
	for _, length := range []int{impl.MaxList, impl.MaxList + 1, 3*impl.MaxList + 5} {
		var base, mutant []impl.Seen
		for i := range length {
			base = append(base, impl.Seen{Trace: []int{i}})
			mutant = append(mutant, impl.Seen{Trace: []int{length - 1 - i}, Script: []int{i}})
		}
		wantNotKilled(t, "long lists", base, mutant)
		wantKilled(t, "the last of a long list", base, append(slices.Clip(mutant), seen(done, nil, []int{5, 5})), 5, 5)
		wantKilled(t, "all but the last of a long list", base[:length-1], mutant, 0)
		wantKilled(t, "all but the first of a long list", base[1:], mutant, length-1)
	}
	long := []impl.Seen{{Trace: make([]int, 100000)}}
	wantNotKilled(t, "a long trace", long, []impl.Seen{{Trace: make([]int, 100000), Script: []int{1}}})
	wantKilled(t, "a long trace", long, []impl.Seen{{Trace: make([]int, 99999), Script: []int{1}}}, 1)
}

// secondVerdict holds each observation against each, field by field.
func secondVerdict(base, mutant impl.Report) (int, []int) {
	for _, one := range mutant.List {
		like := false
		for _, other := range base.List {
			like = like || one.Kind == other.Kind && one.Code == other.Code && one.Value == other.Value && fmt.Sprint(one.Trace) == fmt.Sprint(other.Trace)
		}
		if !like && base.Exhaustive {
			return impl.VdKilled, one.Script
		}
	}
	if base.Exhaustive && mutant.Exhaustive {
		return impl.VdSurvived, nil
	}
	return impl.VdUnknown, nil
}

func drawnReport(draw *rand.Rand) impl.Report {
	r := impl.Report{Exhaustive: draw.Intn(4) > 0, Runs: draw.Intn(5)}
	for range draw.Intn(5) {
		one := impl.Seen{Kind: draw.Intn(2), Code: draw.Intn(2), Value: draw.Intn(2) - 1, Script: drawnScript(draw)}
		for range draw.Intn(3) {
			one.Trace = append(one.Trace, draw.Intn(2))
		}
		r.List = append(r.List, one)
	}
	return r
}

func TestVerdictsAreThoseOfTheSecondWay(t *testing.T) {
	draw := rand.New(rand.NewSource(61))
	verdicts := map[int]int{}
	for range 30000 {
		base, mutant := drawnReport(draw), drawnReport(draw)
		if draw.Intn(2) == 0 { // else few would have nothing that base has not
			base.List = append(base.List, mutant.List[:draw.Intn(len(mutant.List)+1)]...)
		}
		want, script := secondVerdict(base, mutant)
		verdicts[want]++
		wantVerdict(t, fmt.Sprint(base, mutant), base, mutant, want, script...)
	}
	for _, verdict := range []int{impl.VdUnknown, impl.VdKilled, impl.VdSurvived} {
		if verdicts[verdict] < 3000 {
			t.Error("reports by verdict:", verdicts)
		}
	}
}
