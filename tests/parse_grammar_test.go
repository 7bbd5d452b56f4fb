package tests

import (
	"math/rand"
	"slices"
	"strings"
	"testing"

	"loop.example/g00135/impl"
)

// The grammar of chapter 3, a rule a line, with | between what it may be. What is not the head of a rule is a token: NAME, INT, ; or a word or sign.
// List stands ahead of a brace, Part ahead of case or default, where a return that has nothing behind it needs its semicolon.
const grammarText = `
File = Semis Functions
Functions = | Function | Function ; Semis Functions
Semis = | ; Semis
Function = func NAME ( Params ) Block | func NAME ( Params ) Type Block
Params = | Param MoreParams
MoreParams = | , Param MoreParams
Param = NAME Type
Type = int | bool | chan int
Block = { List }
List = Semis ListRest
ListRest = | Statement | return | Statement ; Semis ListRest | return ; Semis ListRest
Part = Semis PartRest
PartRest = | Statement | Statement ; Semis PartRest | return ; Semis PartRest
Statement = NAME := E | NAME = E | NAME ++ | NAME -- | Block | E | E <- E | If | for Block | for E Block | return E | go E | defer E | select { Cases } | break | continue | close ( E ) | print ( E ) | panic ( E )
If = if E Block | if E Block else Block | if E Block else If
Cases = | Clauses
Clauses = Head : List | Head : Part Clauses
Head = default | case E | case NAME := E | case E <- E
E = And | E or And
And = Compared | And && Compared
Compared = Sum | Compared == Sum | Compared != Sum | Compared < Sum | Compared <= Sum | Compared > Sum | Compared >= Sum
Sum = Product | Sum + Product | Sum - Product
Product = Signed | Product * Signed | Product / Signed | Product % Signed
Signed = - Signed | ! Signed | <- Signed | Operand
Operand = INT | true | false | NAME | NAME ( Arguments ) | make ( chan int ) | make ( chan int , E ) | ( E )
Arguments = | E MoreArguments
MoreArguments = | , E MoreArguments
`

type grammar map[string][][]string

func readGrammar(text string) grammar {
	rules := grammar{}
	for line := range strings.Lines(strings.TrimSpace(text)) {
		head, ways, _ := strings.Cut(strings.TrimSpace(line), " =")
		for way := range strings.SplitSeq(ways, " |") {
			rules[head] = append(rules[head], strings.Fields(way))
		}
	}
	return rules
}

func wordOf(token impl.Token) string {
	switch {
	case token.Kind == impl.TkName:
		return "NAME"
	case token.Kind == impl.TkInt:
		return "INT"
	case token.Kind == impl.TkSemi:
		return ";"
	case token.Text == "||":
		return "or"
	}
	return token.Text
}

// An item is a rule's way, how much of it was met, and where that began.
type item struct {
	head            string
	way, done, from int
}

// firstWrong finds, by Earley's way, how many tokens stand where a text of the grammar has them, and if all of them are a file.
func (g grammar) firstWrong(list []impl.Token) (place int, whole bool) {
	sets := make([][]item, len(list)+1)
	known := make([]map[item]bool, len(list)+1)
	add := func(at int, i item) {
		if known[at] == nil {
			known[at] = map[item]bool{}
		}
		if !known[at][i] {
			known[at][i] = true
			sets[at] = append(sets[at], i)
		}
	}
	for way := range g["File"] {
		add(0, item{head: "File", way: way})
	}
	for at := range sets {
		for next := 0; next < len(sets[at]); next++ {
			g.step(list, sets, at, sets[at][next], add)
		}
		if at < len(list) && len(sets[at+1]) == 0 {
			return at, false
		}
	}
	for _, i := range sets[len(list)] {
		whole = whole || i.head == "File" && i.done == len(g["File"][i.way])
	}
	return len(list), whole
}

func (g grammar) step(list []impl.Token, sets [][]item, at int, i item, add func(int, item)) {
	way := g[i.head][i.way]
	moved := i
	moved.done++
	switch {
	case i.done == len(way):
		for _, waits := range slices.Clone(sets[i.from]) {
			if w := g[waits.head][waits.way]; waits.done < len(w) && w[waits.done] == i.head {
				waits.done++
				add(at, waits)
			}
		}
	case g[way[i.done]] != nil:
		for n := range g[way[i.done]] {
			add(at, item{head: way[i.done], way: n, from: at})
		}
		if g.empty(way[i.done]) {
			add(at, moved)
		}
	case at < len(list) && way[i.done] == wordOf(list[at]):
		add(at+1, moved)
	}
}

// empty says that a rule may stand for nothing: so may those that have only such ones in a way.
func (g grammar) empty(head string) bool {
	for _, way := range g[head] {
		none := true
		for _, word := range way {
			none = none && word != head && g[word] != nil && g.empty(word)
		}
		if none {
			return true
		}
	}
	return false
}

// wantByGrammar holds the place of a fault against the grammar; faults of form and depth stand ahead of it.
func wantByGrammar(t *testing.T, rules grammar, text string) int {
	t.Helper()
	list, code, _ := impl.Tokens(text)
	if code != impl.OK {
		return code
	}
	wrong, whole := rules.firstWrong(list)
	wrongAt := len(text)
	if wrong < len(list) {
		wrongAt = list[wrong].At
	}
	_, code, at := impl.Parse(text)
	switch code {
	case impl.OK, impl.ErrMany:
		if !whole || at != 0 {
			t.Fatalf("Parse(%q) has code %d, but token %d at %d can not stand there", text, code, wrong, wrongAt)
		}
	case impl.ErrSyntax:
		if whole || at != wrongAt {
			t.Fatalf("Parse(%q) is wrong at %d, by the grammar at %d", text, at, wrongAt)
		}
	default:
		if at >= wrongAt {
			t.Fatalf("Parse(%q) has code %d at %d, but token %d at %d can not stand there", text, code, at, wrong, wrongAt)
		}
	}
	return code
}

func TestFaultsAreWhereTheGrammarHasThem(t *testing.T) {
	rules := readGrammar(grammarText)
	draw := rand.New(rand.NewSource(9))
	codes := map[int]int{}
	others := slices.Concat(allSigns, takenWords, strings.Fields("a f 1 ; ; { } ( ) , <- if case default : return a a"))
	for range 2500 {
		g := &grower{draw: draw, left: 5 + draw.Intn(25)}
		s := &scribe{draw: draw, extra: 5}
		s.file(g.file(4))
		list, _, _ := impl.Tokens(s.text.String())
		var words []string
		for _, token := range list {
			words = append(words, token.Text)
			if token.Kind == impl.TkSemi {
				words[len(words)-1] = []string{";", "\n"}[draw.Intn(2)]
			}
		}
		for range draw.Intn(4) {
			if len(words) == 0 {
				break
			}
			at := draw.Intn(len(words))
			switch other := others[draw.Intn(len(others))]; draw.Intn(5) {
			case 0:
				words[at] = other
			case 1:
				words = slices.Insert(words, at, other)
			case 2:
				words = slices.Delete(words, at, min(len(words), at+1+draw.Intn(2)))
			case 3:
				words = words[:at]
			case 4:
				words[at] = words[draw.Intn(len(words))]
			}
		}
		codes[wantByGrammar(t, rules, strings.Join(words, " "))]++
	}
	for _, code := range []int{impl.OK, impl.ErrSyntax, impl.ErrForm} {
		if codes[code] < 50 {
			t.Errorf("only %d texts have code %d", codes[code], code)
		}
	}
	t.Log("texts by code:", codes)
}

func TestShortBodiesByTheGrammar(t *testing.T) {
	rules := readGrammar(grammarText)
	words := strings.Fields("a f( ) 1 := ++ <- - + { } ; if else for return go select{ case default : ,")
	for _, first := range words {
		for _, second := range words {
			for _, third := range words {
				wantByGrammar(t, rules, "func f() {"+first+" "+second+" "+third+" }")
			}
		}
	}
}
