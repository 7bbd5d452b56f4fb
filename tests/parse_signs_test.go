package tests

import (
	"math/rand"
	"slices"
	"strings"
	"testing"

	"loop.example/g00135/impl"
)

var signLevels = [][]string{{"||"}, {"&&"}, {"==", "!=", "<", "<=", ">", ">="}, {"+", "-"}, {"*", "/", "%"}}

var signsOfTwo = slices.Concat(signLevels...)

// cutAtLast makes a tree of operands and the signs between them: of those that bind least the last one is its top.
func cutAtLast(operands, signs []string) string {
	for _, level := range signLevels {
		for i := len(signs) - 1; i >= 0; i-- {
			if slices.Contains(level, signs[i]) {
				return "(binary " + signs[i] + " " + cutAtLast(operands[:i+1], signs[:i]) + " " + cutAtLast(operands[i+1:], signs[i+1:]) + ")"
			}
		}
	}
	return operands[0]
}

func TestSignsOfTwoSides(t *testing.T) {
	operands := []string{"(var a)", "(var b)", "(var c)"}
	for _, first := range signsOfTwo {
		wantValue(t, "a "+first+" b", "(binary "+first+" (var a) (var b))")
		for _, second := range signsOfTwo {
			wantValue(t, "a"+first+"b"+second+"c", cutAtLast(operands, []string{first, second}))
			wantValue(t, "a"+first+"(b"+second+"c)", "(binary "+first+" (var a) (binary "+second+" (var b) (var c)))")
			wantValue(t, "(a"+first+"b)"+second+"c", "(binary "+second+" (binary "+first+" (var a) (var b)) (var c))")
		}
	}
}

func TestSignsOfOneSide(t *testing.T) {
	shown := map[string]string{"-": "(unary - ", "!": "(unary ! ", "<-": "(recv "}
	for first, one := range shown {
		wantValue(t, first+"a", one+"(var a))")
		wantValue(t, first+"f(a)", one+"(call f (var a)))")
		wantValue(t, first+"1", one+"(int 1))")
		wantValue(t, first+"true", one+"(bool 1))")
		wantValue(t, first+"make(chan int)", one+"(make))")
		wantValue(t, first+"(a + b)", one+"(binary + (var a) (var b)))")
		wantValue(t, first+"\na", one+"(var a))")
		for second, two := range shown {
			wantValue(t, first+" "+second+"a", one+two+"(var a)))")
			wantValue(t, first+"("+second+"a)", one+two+"(var a)))")
		}
		for _, sign := range signsOfTwo {
			wantValue(t, first+"a "+sign+" b", "(binary "+sign+" "+one+"(var a)) (var b))")
			wantValue(t, "a "+sign+" "+first+"b", "(binary "+sign+" (var a) "+one+"(var b)))")
			wantValue(t, "a "+sign+" "+first+"b "+sign+" c", "(binary "+sign+" (binary "+sign+" (var a) "+one+"(var b))) (var c))")
		}
	}
	for _, sign := range signsOfTwo {
		wantWrongBody(t, impl.ErrSyntax, "print(a "+sign+" @)", "print(a "+sign+" @* b)", "print(a "+sign+" @;", "print(a "+sign+" b @c)", "a := b "+sign+" @}", "a := b "+sign+" @&& c", "return a "+sign+"\n@}")
		if sign != "-" {
			wantWrongBody(t, impl.ErrSyntax, "print(@"+sign+" a)", "print(-@"+sign+" a)", "return @"+sign+" a")
		}
	}
	for _, sign := range strings.Fields("= := ++ -- , : { } <-") {
		wantWrongBody(t, impl.ErrSyntax, "print(1 @"+sign+" 2)", "a := (1 + 2 @"+sign+" 3)")
	}
}

func TestLongRowsOfSigns(t *testing.T) {
	draw := rand.New(rand.NewSource(6))
	for range 2000 {
		operands, signs, text := []string{"(var a)"}, []string(nil), "a"
		for range draw.Intn(14) {
			sign := signsOfTwo[draw.Intn(len(signsOfTwo))]
			operands, signs = append(operands, "(int 2)"), append(signs, sign)
			text += " " + sign + " 2"
		}
		if wantValue(t, text, cutAtLast(operands, signs)); t.Failed() {
			return
		}
	}
}
