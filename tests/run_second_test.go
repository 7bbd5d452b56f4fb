package tests

import (
	"iter"
	"slices"

	"loop.example/g00135/impl"
)

// A second way to run a test: trees are gone through by calls of Go's own, a
// goroutine is a coroutine that yields what it waits for, panics are Go's panics,
// and each move is a function in a list.

type pipe struct {
	number int
	room   int
	closed bool
	queue  []int
}

type value struct {
	n int
	c *pipe
}

// A wish is what a goroutine waits for.
type wish struct {
	what       string
	n          int
	code       int
	c          *pipe
	clauses    []wishClause
	hasDefault bool
	function   string
	arguments  []value
}

type wishClause struct {
	place int
	send  bool
	c     *pipe
	n     int
}

type lane struct {
	w      *world
	number int
	yield  func(wish) bool
	next   func() (wish, bool)
	stop   func()
	wants  wish
	gone   bool
	open   int
	// What the move told: a panic's code, the case that was picked, and what it received.
	code, place, got int
}

type world struct {
	file  impl.Node
	lanes []*lane
	pipes int
	left  int
	spent bool
	run   impl.Run
}

type thrown struct{ code, value int }

// halted ends a coroutine whose run has ended.
type halted struct{}

type scope struct {
	around *scope
	has    map[string]*value
}

func (s *scope) inner() *scope { return &scope{s, map[string]*value{}} }

func (s *scope) find(name string) *value {
	for s.has[name] == nil {
		s = s.around
	}
	return s.has[name]
}

// A deed is what a move does, and whose, at which places of selects, and by which pipe.
type deed struct {
	what     string
	by, with int
	at, to   int
	pipe, n  int
}

// A choice is a move that can be picked.
type choice struct {
	deed
	do func()
}

// secondRun is what RunTest should answer for a tree that checks.
func secondRun(file impl.Node, test string, script []int, steps int) impl.Run {
	return watchedRun(file, test, script, steps, func([]choice) {})
}

// watchedRun shows the moves ahead of each pick.
func watchedRun(file impl.Node, test string, script []int, steps int, watch func([]choice)) impl.Run {
	w := &world{file: file, left: steps}
	w.start(test, nil)
	for w.run.Kind == 0 {
		moves := w.moves()
		switch {
		case w.left == 0 || w.spent:
			w.run.Kind = impl.OtBudget
		case len(moves) == 0:
			w.run.Kind = impl.OtDeadlock
		default:
			pick := 0
			if len(script) > 0 {
				pick, script = script[0]%len(moves), script[1:]
			}
			w.run.Picks, w.run.Widths = append(w.run.Picks, pick), append(w.run.Widths, len(moves))
			w.left--
			watch(moves)
			moves[pick].do()
		}
	}
	for _, l := range w.lanes {
		l.stop()
	}
	return w.run
}

func (w *world) start(function string, arguments []value) {
	l := &lane{w: w, number: len(w.lanes)}
	l.next, l.stop = iter.Pull(func(yield func(wish) bool) {
		defer func() {
			if p := recover(); p != nil && p != any(halted{}) {
				panic(p)
			}
		}()
		l.yield = yield
		_, p := l.enter(function, arguments)
		switch {
		case p != nil:
			l.ask(wish{what: "crash", code: p.code, n: p.value})
		case l == w.lanes[0]:
			l.ask(wish{what: "end"})
		}
	})
	w.lanes = append(w.lanes, l)
	l.goOn()
}

func (l *lane) goOn() {
	wants, there := l.next()
	l.wants, l.gone = wants, !there
}

// ask waits for a move, and panics with what it threw.
func (l *lane) ask(what wish) {
	l.code = 0
	if !l.yield(what) {
		panic(halted{})
	}
	if l.code != 0 {
		panic(thrown{code: l.code})
	}
}

func (l *lane) quietStep() {
	l.w.left--
	if l.w.left <= 0 {
		l.w.spent = true
		l.ask(wish{what: "nothing"})
	}
}

func (w *world) moves() []choice {
	var list []choice
	for _, l := range w.lanes {
		if l.gone {
			continue
		}
		switch l.wants.what {
		case "select":
			list = append(list, w.choices(l)...)
		case "nothing":
		default:
			pipe := -1
			if l.wants.c != nil {
				pipe = l.wants.c.number
			}
			list = append(list, choice{deed{what: l.wants.what, by: l.number, with: -1, pipe: pipe, n: l.wants.n}, func() { w.plain(l) }})
		}
	}
	return list
}

func (w *world) choices(l *lane) []choice {
	var list []choice
	part := false
	for _, c := range l.wants.clauses {
		what := map[bool]string{true: "send", false: "receive"}[c.send]
		switch {
		case c.send && (c.c.closed || len(c.c.queue) < c.c.room), !c.send && (c.c.closed || len(c.c.queue) > 0):
			list = append(list, choice{deed{what, l.number, -1, c.place, -1, c.c.number, c.n}, func() { w.alone(l, c) }})
		case c.c.room == 0 && c.send:
			w.eachPartner(l, c, func(other *lane, o wishClause) {
				list = append(list, choice{deed{what, l.number, other.number, c.place, o.place, c.c.number, c.n}, func() {
					l.place, other.place, other.got = c.place, o.place, c.n
					l.goOn()
					other.goOn()
				}})
			})
		case c.c.room == 0:
			w.eachPartner(l, c, func(*lane, wishClause) { part = true })
		}
	}
	if len(list) == 0 && !part && l.wants.hasDefault {
		list = append(list, choice{deed{what: "default", by: l.number, with: -1, pipe: -1}, func() { l.place = -1; l.goOn() }})
	}
	return list
}

func (w *world) eachPartner(l *lane, c wishClause, found func(*lane, wishClause)) {
	for _, other := range w.lanes {
		if other == l || other.gone || other.wants.what != "select" {
			continue
		}
		for _, o := range other.wants.clauses {
			if o.c == c.c && o.send != c.send {
				found(other, o)
			}
		}
	}
}

func (w *world) alone(l *lane, c wishClause) {
	l.place, l.got = c.place, 0
	switch {
	case c.send && c.c.closed:
		l.code = impl.PnSend
	case c.send:
		c.c.queue = append(c.c.queue, c.n)
	case len(c.c.queue) > 0:
		l.got, c.c.queue = c.c.queue[0], c.c.queue[1:]
	}
	l.goOn()
}

func (w *world) plain(l *lane) {
	wants := l.wants
	switch wants.what {
	case "print":
		w.run.Trace = append(w.run.Trace, wants.n)
	case "close":
		if wants.c.closed {
			l.code = impl.PnClosed
		}
		wants.c.closed = true
	case "go":
		there := 0
		for _, other := range w.lanes {
			if !other.gone {
				there++
			}
		}
		if there >= impl.MaxGo {
			l.code = impl.PnGo
		} else {
			w.start(wants.function, wants.arguments)
		}
	case "end":
		w.run.Kind = impl.OtDone
		return
	case "crash":
		w.run.Kind, w.run.Code, w.run.Value = impl.OtPanic, wants.code, wants.n
		return
	}
	l.goOn()
}

// caught does something, and answers what it threw.
func caught(do func()) (p *thrown) {
	defer func() {
		if r := recover(); r != nil {
			if t, ok := r.(thrown); ok {
				p = &t
				return
			}
			panic(r)
		}
	}()
	do()
	return nil
}

// enter does a call and its deferred ones.
func (l *lane) enter(name string, arguments []value) (result value, p *thrown) {
	l.open++
	defer func() { l.open-- }()
	at := slices.IndexFunc(l.w.file.Kids, func(f impl.Node) bool { return f.Name == name })
	function := l.w.file.Kids[at]
	last := len(function.Kids) - 1
	names := (&scope{}).inner()
	for i, parameter := range function.Kids[:last] {
		names.has[parameter.Name] = &value{arguments[i].n, arguments[i].c}
	}
	b := &body{lane: l}
	p = caught(func() { b.list(function.Kids[last], names) })
	result = b.result
	for _, late := range slices.Backward(b.late) {
		panicked := caught(func() {
			l.quietStep()
			if _, q := l.enter(late.function, late.arguments); q != nil {
				panic(*q)
			}
		})
		if panicked != nil {
			p = panicked
		}
	}
	return result, p
}

// A body is a call under way.
type body struct {
	*lane
	late   []wish
	result value
}

// How a statement ends, if it does not go on behind itself.
const (
	goesOn = iota
	breaksOut
	continues
	returns
)

func (b *body) list(block impl.Node, names *scope) int {
	for _, n := range block.Kids {
		if how := b.do(n, names); how != goesOn {
			return how
		}
	}
	return goesOn
}

func (b *body) do(n impl.Node, names *scope) int {
	switch n.Kind {
	case impl.NdBlock:
		return b.list(n, names.inner())
	case impl.NdDefine:
		v := b.work(n.Kids[0], names)
		names.has[n.Name] = &v
	case impl.NdAssign:
		*names.find(n.Name) = b.work(n.Kids[0], names)
	case impl.NdStep:
		names.find(n.Name).n += n.N
	case impl.NdSend:
		c := b.work(n.Kids[0], names).c
		b.ask(wish{what: "select", clauses: []wishClause{{send: true, c: c, n: b.work(n.Kids[1], names).n}}})
	case impl.NdExpr:
		b.work(n.Kids[0], names)
	case impl.NdIf:
		if b.work(n.Kids[0], names).n == 1 {
			return b.do(n.Kids[1], names)
		} else if len(n.Kids) == 3 {
			return b.do(n.Kids[2], names)
		}
	case impl.NdFor:
		return b.loop(n, names)
	case impl.NdReturn:
		for _, e := range n.Kids {
			b.result = b.work(e, names)
		}
		return returns
	case impl.NdGo:
		b.ask(wish{what: "go", function: n.Kids[0].Name, arguments: b.all(n.Kids[0].Kids, names)})
	case impl.NdDefer:
		b.late = append(b.late, wish{function: n.Kids[0].Name, arguments: b.all(n.Kids[0].Kids, names)})
	case impl.NdSelect:
		return b.choice(n, names)
	case impl.NdBreak:
		return breaksOut
	case impl.NdContinue:
		return continues
	case impl.NdClose:
		b.ask(wish{what: "close", c: b.work(n.Kids[0], names).c})
	case impl.NdPrint:
		b.ask(wish{what: "print", n: b.work(n.Kids[0], names).n})
	case impl.NdPanic:
		panic(thrown{impl.PnUser, b.work(n.Kids[0], names).n})
	}
	return goesOn
}

func (b *body) loop(n impl.Node, names *scope) int {
	last := len(n.Kids) - 1
	for {
		if last == 1 && b.work(n.Kids[0], names).n == 0 {
			return goesOn
		}
		switch how := b.do(n.Kids[last], names); how {
		case breaksOut:
			return goesOn
		case returns:
			return how
		}
		b.quietStep()
	}
}

func (b *body) choice(n impl.Node, names *scope) int {
	due := wish{what: "select"}
	home := -1
	for i, c := range n.Kids {
		switch c.N {
		case 0:
			due.hasDefault, home = true, i
		case 1:
			due.clauses = append(due.clauses, wishClause{place: i, c: b.work(c.Kids[0], names).c})
		case 2:
			to := b.work(c.Kids[0], names).c
			due.clauses = append(due.clauses, wishClause{i, true, to, b.work(c.Kids[1], names).n})
		}
	}
	b.ask(due)
	if b.place == -1 {
		b.place = home
	}
	picked := n.Kids[b.place]
	inner := names.inner()
	if picked.Name != "" {
		inner.has[picked.Name] = &value{n: b.got}
	}
	how := b.list(picked.Kids[len(picked.Kids)-1], inner)
	if how == breaksOut {
		return goesOn
	}
	return how
}

func (b *body) all(list []impl.Node, names *scope) []value {
	var values []value
	for _, n := range list {
		values = append(values, b.work(n, names))
	}
	return values
}

func (b *body) work(n impl.Node, names *scope) value {
	switch n.Kind {
	case impl.NdVar:
		return *names.find(n.Name)
	case impl.NdCall:
		arguments := b.all(n.Kids, names)
		b.quietStep()
		if b.open >= impl.MaxCalls {
			panic(thrown{code: impl.PnDeep})
		}
		result, p := b.enter(n.Name, arguments)
		if p != nil {
			panic(*p)
		}
		return result
	case impl.NdMake:
		room := 0
		for _, e := range n.Kids {
			room = b.work(e, names).n
		}
		if room < 0 || room > impl.MaxCap {
			panic(thrown{code: impl.PnMake})
		}
		b.w.pipes++
		return value{c: &pipe{number: b.w.pipes, room: room}}
	case impl.NdUnary:
		v := b.work(n.Kids[0], names).n
		if n.Name == "!" {
			return value{n: 1 - v}
		}
		return value{n: -v}
	case impl.NdBinary:
		return b.sides(n, names)
	case impl.NdRecv:
		b.ask(wish{what: "select", clauses: []wishClause{{c: b.work(n.Kids[0], names).c}}})
		return value{n: b.got}
	}
	return value{n: n.N}
}

func (b *body) sides(n impl.Node, names *scope) value {
	left := b.work(n.Kids[0], names)
	if n.Name == "&&" && left.n == 0 || n.Name == "||" && left.n == 1 {
		return left
	}
	right := b.work(n.Kids[1], names)
	truth := map[bool]value{true: {n: 1}}
	switch n.Name {
	case "+":
		return value{n: left.n + right.n}
	case "-":
		return value{n: left.n - right.n}
	case "*":
		return value{n: left.n * right.n}
	case "/", "%":
		if right.n == 0 {
			panic(thrown{code: impl.PnZero})
		}
		quotient := left.n / right.n
		if n.Name == "/" {
			return value{n: quotient}
		}
		return value{n: left.n - quotient*right.n}
	case "==":
		return truth[left == right]
	case "!=":
		return truth[left != right]
	case "<":
		return truth[left.n < right.n]
	case "<=":
		return truth[left.n <= right.n]
	case ">":
		return truth[left.n > right.n]
	case ">=":
		return truth[left.n >= right.n]
	}
	return right
}
