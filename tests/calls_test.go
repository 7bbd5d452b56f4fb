package tests

import (
	"reflect"
	"slices"
	"strings"
	"sync"
	"testing"

	"loop.example/g00135/impl"
)

// callTexts are texts right and wrong, at the edges of all that bounds them.
var callTexts = []string{
	"", "a", "if", "ok", "deep", "x := <-c // wait\n\nreturn }", "a & b", "007", "1a", "\x00", "\xff\xfe", "é", "a\n\n\nb", "//", ";;;", "<--",
	strings.Repeat("n", impl.MaxName), strings.Repeat("n", impl.MaxName+1), strings.Repeat("9", 18), strings.Repeat("9", 19),
	strings.Repeat("(", impl.MaxTokens), strings.Repeat("(", impl.MaxTokens+1), strings.Repeat("(", impl.MaxTokens-1) + "x",
	strings.Repeat(" ", impl.MaxText), strings.Repeat(" ", impl.MaxText+1), strings.Repeat("x\n", impl.MaxText),
}

type answers struct {
	name      bool
	codeOf    int
	word      string
	list      []impl.Token
	code, at  int
	wordAfter string
}

func callAll(text string, code int) answers {
	a := answers{name: impl.NameOK(text), codeOf: impl.CodeOf(text), word: impl.CodeWord(code)}
	a.list, a.code, a.at = impl.Tokens(text)
	a.wordAfter = impl.CodeWord(a.codeOf)
	return a
}

func TestAlikeArgumentsHaveAlikeAnswers(t *testing.T) {
	var first []answers
	for i, text := range callTexts {
		first = append(first, callAll(text, i-5))
	}
	for i, text := range slices.Backward(callTexts) {
		again := callAll(strings.Clone(text), i-5)
		if !reflect.DeepEqual(again, first[i]) {
			t.Errorf("%.30q has other answers when asked again", text)
		}
	}
}

func TestCallsAtOneTimeHaveTheSameAnswers(t *testing.T) {
	want := make([]answers, len(callTexts))
	for i, text := range callTexts {
		want[i] = callAll(text, i)
	}
	var group sync.WaitGroup
	for range 8 {
		group.Go(func() {
			for i, text := range callTexts {
				if !reflect.DeepEqual(callAll(text, i), want[i]) {
					t.Errorf("%.30q has other answers beside other calls", text)
				}
			}
		})
	}
	group.Wait()
}

func TestAnswersAreNewMemory(t *testing.T) {
	text := "x := <-c // wait\n\nreturn }"
	first, _, _ := impl.Tokens(text)
	kept := slices.Clone(first)
	whole := first[:cap(first)]
	for i := range whole {
		whole[i] = impl.Token{Kind: -1, Text: "spoilt", At: -1}
	}
	second, code, at := impl.Tokens(text)
	if code != impl.OK || at != 0 || !slices.Equal(second, kept) {
		t.Error("what was written into an answer is seen in the next one:", second)
	}
	third, _, _ := impl.Tokens(text)
	second = append(second, impl.Token{Kind: -1})
	second[0].At = -1
	if !slices.Equal(third, kept) {
		t.Error("two answers share memory:", third)
	}
}

func TestAllElseIsZeroBesideACode(t *testing.T) {
	codes := map[int]int{}
	for _, text := range callTexts {
		list, code, at := impl.Tokens(text)
		codes[code]++
		if code != impl.OK && len(list) != 0 {
			t.Errorf("Tokens(%.30q) has %d tokens beside code %d", text, len(list), code)
		}
		if (code == impl.OK || code == impl.ErrLong) && at != 0 {
			t.Errorf("Tokens(%.30q) has place %d beside code %d", text, at, code)
		}
		if at < 0 || at > len(text) {
			t.Errorf("Tokens(%.30q) has place %d", text, at)
		}
	}
	for _, code := range []int{impl.OK, impl.ErrSyntax, impl.ErrMany, impl.ErrLong} {
		if codes[code] == 0 {
			t.Errorf("no text has code %d", code)
		}
	}
}
