package tests

import (
	"iter"
	"slices"

	"loop.example/g00135/impl"
)

// A second way to explore: each run is run from its beginning, the next one by
// its picks counted up. Of a run that is gone through wholly it is asked
// afterwards which of its moves slept: one that, at a point ahead, stood ahead of
// what was picked there, and is apart from all that was picked since.

// A lap is a run, with what could be picked at each point of it.
type lap struct {
	run    impl.Run
	points [][]deed
}

func lapOf(n impl.Node, test string, script []int, steps int) lap {
	var l lap
	l.run = watchedRun(n, test, script, steps, func(choices []choice) {
		var deeds []deed
		for _, c := range choices {
			deeds = append(deeds, c.deed)
		}
		l.points = append(l.points, deeds)
	})
	return l
}

func (l lap) picked(at int) deed { return l.points[at][l.run.Picks[at]] }

// slept says that the move that was picked at a point slept there.
func (l lap) slept(at int) bool {
	for ahead := at - 1; ahead >= 0 && apart(l.picked(at), l.picked(ahead)); ahead-- {
		place := slices.Index(l.points[ahead], l.picked(at))
		if place >= 0 && place < l.run.Picks[ahead] {
			return true
		}
	}
	return false
}

func apart(a, b deed) bool {
	for _, d := range []deed{a, b} {
		if slices.Contains([]string{"go", "crash", "end", "default"}, d.what) {
			return false
		}
	}
	for _, number := range []int{a.by, a.with} {
		if number >= 0 && slices.Contains([]int{b.by, b.with}, number) {
			return false
		}
	}
	if a.what == "print" && b.what == "print" {
		return false
	}
	return a.what == "print" || b.what == "print" || a.pipe != b.pipe
}

// laps are all runs in the order of their picks, but for those in which a move slept if that is asked for. So many are tried at most.
func laps(n impl.Node, test string, steps int, sleeping bool, tries *int) iter.Seq[lap] {
	return func(yield func(lap) bool) {
		var script []int
		for ; *tries > 0; *tries-- {
			l := lapOf(n, test, script, steps)
			script = l.run.Picks
			if at := slices.IndexFunc(places(len(script)), l.slept); sleeping && at >= 0 {
				script = script[:at+1]
			} else if !yield(l) {
				return
			}
			last := len(script) - 1
			for last >= 0 && script[last]+1 == l.run.Widths[last] {
				last--
			}
			if last < 0 {
				return
			}
			script = append(slices.Clone(script[:last]), script[last]+1)
		}
	}
}

// places are the numbers below n.
func places(n int) []int {
	list := make([]int, n)
	for i := range list {
		list[i] = i
	}
	return list
}

// secondReport is what Explore, or Sleep, should answer for a tree that checks; it is not known if it takes too many tries.
func secondReport(n impl.Node, test string, steps, runs int, sleeping bool) (report impl.Report, known bool) {
	tries := 3000
	enough := true
	for l := range laps(n, test, steps, sleeping, &tries) {
		if report.Runs == runs {
			return report, true
		}
		report.Runs++
		r := l.run
		if r.Kind == impl.OtBudget {
			enough = false
			continue
		}
		again := func(s impl.Seen) bool {
			return [3]int{s.Kind, s.Code, s.Value} == [3]int{r.Kind, r.Code, r.Value} && slices.Equal(s.Trace, r.Trace)
		}
		if !slices.ContainsFunc(report.List, again) {
			report.List = append(report.List, impl.Seen{Kind: r.Kind, Code: r.Code, Value: r.Value, Trace: r.Trace, Script: r.Picks})
		}
	}
	report.Exhaustive = enough
	return report, tries > 0
}

func sameReport(a, b impl.Report) bool {
	return a.Exhaustive == b.Exhaustive && a.Runs == b.Runs && slices.EqualFunc(a.List, b.List, func(x, y impl.Seen) bool {
		return x.Kind == y.Kind && x.Code == y.Code && x.Value == y.Value && slices.Equal(x.Trace, y.Trace) && slices.Equal(x.Script, y.Script)
	})
}
