package tests

import (
	"math/rand"
	"slices"
	"strings"
	"testing"

	"loop.example/g00135/impl"
)

// inParentheses says that kid number i of a node is printed in parentheses.
func inParentheses(n impl.Node, i int) bool {
	kid := n.Kids[i]
	switch {
	case n.Kind == impl.NdBinary:
		return kid.Kind == impl.NdBinary && levelOf(kid.Name) < levelOf(n.Name)+i
	case n.Kind == impl.NdUnary && n.Name == "-" && kid.Kind == impl.NdUnary:
		return kid.Name == "-"
	case n.Kind == impl.NdUnary || n.Kind == impl.NdRecv || n.Kind == impl.NdCase && n.N == 1:
		return kid.Kind == impl.NdBinary
	}
	return false
}

// openMost tells how many things are open at one time in a node's text, at most.
func openMost(n impl.Node, ofCase bool) int {
	own, most := 0, 0
	switch n.Kind {
	case impl.NdBlock:
		if !ofCase {
			own = 1
		}
	case impl.NdSelect, impl.NdIf, impl.NdCall, impl.NdMake, impl.NdClose, impl.NdPrint, impl.NdPanic, impl.NdUnary, impl.NdRecv:
		own = 1
	}
	for i, kid := range n.Kids {
		open := openMost(kid, n.Kind == impl.NdCase)
		if inParentheses(n, i) {
			open++
		}
		if n.Kind == impl.NdCase && n.N == 1 && i == 0 {
			open++
		}
		most = max(most, open)
	}
	return own + most
}

// wantAgain asks that a tree's text is parsed as the same tree, and this printed as the same text, unless the text is too long or stands too deep.
func wantAgain(t *testing.T, n impl.Node, text string) int {
	t.Helper()
	again, code, at := impl.Parse(text)
	want := impl.OK
	switch {
	case len(text) > impl.MaxText:
		want = impl.ErrLong
	case openMost(n, false) > impl.MaxDeep:
		want = impl.ErrDeep
	}
	if code != want {
		t.Fatalf("the text of %.300s is parsed with code %d at %d, not %d: %.500q", show(n), code, at, want, text)
	}
	if code != impl.OK {
		return code
	}
	if show(again) != show(n) {
		t.Fatalf("the text of %.300s is parsed as %.300s: %.500q", show(n), show(again), text)
	}
	if second, code := impl.Print(again); code != impl.OK || second != text {
		t.Fatalf("what is parsed from %.500q is printed as %.500q", text, second)
	}
	return impl.OK
}

func isOperandEnd(token impl.Token) bool {
	return token.Kind == impl.TkName || token.Kind == impl.TkInt || slices.Contains([]string{")", "true", "false"}, token.Text)
}

// A layer lays tokens out as the document says of texts, without knowing of trees.
type layer struct {
	text strings.Builder
	open int
	// last is the token ahead in this line, if there is one; tight says that nothing stands between it and the next one.
	last  impl.Token
	tight bool
}

func (l *layer) endLine() {
	l.text.WriteString("\n")
	l.last = impl.Token{}
}

func (l *layer) put(token impl.Token) {
	word := token.Text
	if word == "}" {
		l.open--
	}
	switch {
	case l.last.Kind == 0:
		tabs := l.open
		if word == "case" || word == "default" {
			tabs--
		}
		l.text.WriteString(strings.Repeat("\t", tabs))
	case l.tight || slices.Contains([]string{")", ",", ":", "++", "--"}, word):
	case word == "(" && (l.last.Kind == impl.TkName || slices.Contains([]string{"make", "close", "print", "panic"}, l.last.Text)):
	default:
		l.text.WriteString(" ")
	}
	l.text.WriteString(word)
	ahead := word == "!" || (word == "-" || word == "<-") && !isOperandEnd(l.last)
	l.tight, l.last = ahead || word == "(", token
	if word == "{" {
		l.open++
	}
	if word == "{" || word == ":" {
		l.endLine()
	}
}

func laidOut(list []impl.Token) string {
	l := &layer{}
	for i, token := range list {
		if token.Kind != impl.TkSemi {
			l.put(token)
			continue
		}
		if l.endLine(); l.open == 0 && i+1 < len(list) {
			l.endLine()
		}
	}
	return l.text.String()
}

// wantLayout holds a text against what its tokens are laid out as: a semicolon that is written, or one that is missing, makes it another one.
func wantLayout(t *testing.T, text string) {
	t.Helper()
	if len(text) > impl.MaxText {
		return // it has no tokens
	}
	list, code, at := impl.Tokens(text)
	if code != impl.OK {
		t.Fatalf("the tokens of %.500q have code %d at %d", text, code, at)
	}
	if want := laidOut(list); text != want || strings.Contains(text, ";") {
		t.Fatalf("the text %.500q is not laid out as %.500q", text, want)
	}
}

// groupings are the places of parentheses that are no part of a call or the like, or of a function's head.
func groupings(list []impl.Token) [][2]int {
	var pairs [][2]int
	var open []int
	for i, token := range list {
		switch token.Text {
		case "(":
			place := token.At
			if ahead := list[i-1]; ahead.Kind == impl.TkName || slices.Contains([]string{"make", "close", "print", "panic"}, ahead.Text) {
				place = -1
			}
			open = append(open, place)
		case ")":
			if place := open[len(open)-1]; place >= 0 {
				pairs = append(pairs, [2]int{place, token.At})
			}
			open = open[:len(open)-1]
		}
	}
	return pairs
}

// wantNeeded asks that each two parentheses have a part in what is parsed.
func wantNeeded(t *testing.T, n impl.Node, text string) int {
	t.Helper()
	list, _, _ := impl.Tokens(text)
	pairs := groupings(list)
	for _, pair := range pairs {
		without := text[:pair[0]] + text[pair[0]+1:pair[1]] + text[pair[1]+1:]
		if again, code, _ := impl.Parse(without); code == impl.OK && show(again) == show(n) {
			t.Fatalf("%.500q needs no parentheses at %d and %d", text, pair[0], pair[1])
		}
	}
	return len(pairs)
}

// sink puts a function's statements so many blocks deeper.
func sink(function *impl.Node, blocks int) {
	body := &function.Kids[len(function.Kids)-1]
	for range blocks {
		*body = blockOf(*body)
	}
}

func TestTreesByChanceArePrinted(t *testing.T) {
	draw := rand.New(rand.NewSource(11))
	codes, needed := map[int]int{}, 0
	for i := range 6000 {
		g := &grower{draw: draw, left: 5 + draw.Intn(120)}
		deep := 3 + draw.Intn(6)
		if i%4 == 1 {
			g.left, deep = 100+draw.Intn(900), 30+draw.Intn(40)
		}
		n := g.file(deep)
		if i%4 == 2 {
			sink(&n.Kids[0], 30+draw.Intn(60))
		}
		text, code := impl.Print(n)
		if size := impl.Size(n); size > impl.MaxNodes {
			if codes[code]++; code != impl.ErrBad || text != "" {
				t.Fatalf("a tree of %d nodes is printed with code %d: %.500q", size, code, text)
			}
			continue
		}
		if code != impl.OK {
			t.Fatalf("Print(%s) has code %d", show(n), code)
		}
		again := wantAgain(t, n, text)
		codes[again]++
		wantLayout(t, text)
		if again == impl.OK && i%4 != 1 {
			needed += wantNeeded(t, n, text)
		}
	}
	for _, code := range []int{impl.OK, impl.ErrBad, impl.ErrDeep} {
		if codes[code] < 50 {
			t.Errorf("only %d trees have code %d", codes[code], code)
		}
	}
	if needed < 5000 {
		t.Errorf("only %d pairs of parentheses were tried", needed)
	}
	t.Log("trees by code:", codes, "pairs of parentheses:", needed)
}

// What is parsed, however it was written, is printed and parsed again as the same tree.
func TestTextsByChanceArePrinted(t *testing.T) {
	draw := rand.New(rand.NewSource(12))
	codes := map[int]int{}
	for i := range 4000 {
		g := &grower{draw: draw, left: 5 + draw.Intn(120)}
		s := &scribe{draw: draw, extra: draw.Intn(4) * 10}
		deep := 3 + draw.Intn(6)
		if i%3 == 1 {
			g.left, deep = 100+draw.Intn(500), 20+draw.Intn(40)
		}
		s.file(g.file(deep))
		n, code, _ := impl.Parse(s.text.String())
		if code != impl.OK {
			continue
		}
		text, code := impl.Print(n)
		if code != impl.OK {
			t.Fatalf("what is parsed from %q is printed with code %d", s.text.String(), code)
		}
		codes[wantAgain(t, n, text)]++
		wantLayout(t, text)
	}
	if codes[impl.OK] < 1000 {
		t.Errorf("only %d texts are parsed again", codes[impl.OK])
	}
	t.Log("texts by code:", codes)
}

// Two signs - that stand side by side need parentheses in the text, so that what just was not too deep may be so then.
func TestParsedTreesThatStandTooDeep(t *testing.T) {
	for signs := 1; signs <= 58; signs++ {
		n, code, at := impl.Parse("func f() { print(" + strings.Repeat("- ", signs) + "1) }")
		if code != impl.OK {
			t.Fatalf("%d signs have code %d at %d", signs, code, at)
		}
		text, code := impl.Print(n)
		if want := "func f() {\n\tprint(" + strings.Repeat("-(", signs-1) + "-1" + strings.Repeat(")", signs) + "\n}\n"; code != impl.OK || text != want {
			t.Errorf("%d signs are printed as %q", signs, text)
		}
		tooDeep := 2+2*signs-1 > impl.MaxDeep
		if _, code, _ := impl.Parse(text); (code == impl.ErrDeep) != tooDeep || code != impl.OK && !tooDeep {
			t.Errorf("%d signs are parsed again with code %d", signs, code)
		}
		wantAgain(t, n, text)
	}
	for _, source := range []string{"print(" + strings.Repeat("!", 58) + "a)", "print(" + strings.Repeat("<-", 58) + "a)", "print(" + strings.Repeat("-!", 29) + "a)", strings.Repeat("{", 59) + strings.Repeat("}", 59), "print(" + strings.Repeat("(1-", 58) + "1" + strings.Repeat(")", 58) + ")", strings.Repeat("if a {} else ", 58) + "{}"} {
		n, code, at := impl.Parse("func f() {" + source + "}")
		if code != impl.OK {
			t.Fatalf("%q has code %d at %d", source, code, at)
		}
		text, code := impl.Print(n)
		if code != impl.OK || wantAgain(t, n, text) != impl.OK {
			t.Errorf("%q is printed with code %d, or not parsed again", source, code)
		}
		wantLayout(t, text)
	}
}

func TestTheWholeTextIsPrinted(t *testing.T) {
	n, _, _ := impl.Parse(wholeText)
	wantText(t, n, `func g(a int, b bool, c chan int) int {
	x := make(chan int, 2)
	y := make(chan int)
	y = x
	a++
	a--
	for a < 3 && !b {
		x <- -a * 2
		break
	}
	for {
		continue
	}
	if b {
		<-c
	} else if a == 1 {
		close(c)
	} else {
		panic(a % 2)
	}
	select {
	case v := <-x:
		print(v)
	case <-y:
		{
			return g(a, true, c)
		}
	case c <- 7:
	default:
		go g(1, false, c)
		defer g(2, b || b, y)
	}
	return 999999999999999999
}

func h() {
	return
}
`)
}
