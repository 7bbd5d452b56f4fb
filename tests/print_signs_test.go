package tests

import (
	"testing"

	"loop.example/g00135/impl"
)

func twoSides(sign string, left, right impl.Node) impl.Node {
	return named(impl.NdBinary, sign, left, right)
}

// signNode has one sign ahead of an operand.
func signNode(sign string, operand impl.Node) impl.Node {
	if sign == "<-" {
		return node(impl.NdRecv, operand)
	}
	return named(impl.NdUnary, sign, operand)
}

var signsOfOne = []string{"-", "!", "<-"}

func TestParenthesesOfSides(t *testing.T) {
	a, b, c := variable("a"), variable("b"), variable("c")
	for outer, outerSigns := range signLevels {
		for inner, innerSigns := range signLevels {
			for _, o := range outerSigns {
				for _, i := range innerSigns {
					left, right := "a "+i+" b "+o+" c", "a "+o+" b "+i+" c"
					if inner < outer {
						left = "(a " + i + " b) " + o + " c"
					}
					if inner <= outer {
						right = "a " + o + " (b " + i + " c)"
					}
					wantLine(t, node(impl.NdPrint, twoSides(o, twoSides(i, a, b), c)), "print("+left+")")
					wantLine(t, node(impl.NdPrint, twoSides(o, a, twoSides(i, b, c))), "print("+right+")")
				}
			}
		}
	}
}

func TestParenthesesOfOperands(t *testing.T) {
	a, b := variable("a"), variable("b")
	for _, one := range signsOfOne {
		for _, two := range signsOfTwo {
			wantLine(t, node(impl.NdReturn, signNode(one, twoSides(two, a, b))), "return "+one+"(a "+two+" b)")
			wantLine(t, node(impl.NdReturn, twoSides(two, signNode(one, a), b)), "return "+one+"a "+two+" b")
			wantLine(t, node(impl.NdReturn, twoSides(two, a, signNode(one, b))), "return a "+two+" "+one+"b")
			wantLine(t, node(impl.NdReturn, signNode(one, signNode("!", twoSides(two, a, b)))), "return "+one+"!(a "+two+" b)")
		}
		for _, operand := range []struct {
			n    impl.Node
			text string
		}{{whole(0), "0"}, {numbered(impl.NdBool, 1), "true"}, {a, "a"}, {callOf("f"), "f()"}, {callOf("f", twoSides("+", a, b)), "f(a + b)"}, {node(impl.NdMake), "make(chan int)"}, {node(impl.NdMake, twoSides("-", a, b)), "make(chan int, a - b)"}} {
			wantLine(t, node(impl.NdReturn, signNode(one, operand.n)), "return "+one+operand.text)
		}
	}
	for _, two := range signsOfTwo {
		operand := twoSides(two, a, b)
		wantLines(t, []impl.Node{node(impl.NdSelect, caseOf(1, "", operand, blockOf()), caseOf(1, "v", operand, blockOf()), caseOf(2, "", operand, operand, blockOf()))},
			"select {", "case <-(a "+two+" b):", "case v := <-(a "+two+" b):", "case a "+two+" b <- a "+two+" b:", "}")
	}
}

func TestSignsOfOneSideWithinOthers(t *testing.T) {
	a := variable("a")
	want := map[string]string{
		"--": "-(-a)", "-!": "-!a", "-<-": "-<-a", "!-": "!-a", "!!": "!!a", "!<-": "!<-a", "<--": "<--a", "<-!": "<-!a", "<-<-": "<-<-a",
		"---": "-(-(-a))", "--!": "-(-!a)", "-!-": "-!-a", "!--": "!-(-a)", "<---": "<--(-a)", "-<--": "-<--a", "--<-": "-(-<-a)", "<-<--": "<-<--a", "-!!": "-!!a", "!!!": "!!!a", "<-<-<-": "<-<-<-a",
	}
	tried := 0
	for _, first := range signsOfOne {
		for _, second := range signsOfOne {
			if text, known := want[first+second]; known {
				tried++
				wantLine(t, named(impl.NdDefine, "x", signNode(first, signNode(second, a))), "x := "+text)
			}
			for _, third := range signsOfOne {
				if text, known := want[first+second+third]; known {
					tried++
					wantLine(t, named(impl.NdDefine, "x", signNode(first, signNode(second, signNode(third, a)))), "x := "+text)
				}
			}
		}
	}
	if tried < len(want) {
		t.Errorf("only %d of %d rows of signs were tried", tried, len(want))
	}
}

func TestParenthesesByExample(t *testing.T) {
	a, b, c, d := variable("a"), variable("b"), variable("c"), variable("d")
	minus := func(n impl.Node) impl.Node { return signNode("-", n) }
	for _, e := range []struct {
		n    impl.Node
		text string
	}{
		{twoSides("-", a, minus(b)), "a - -b"}, {twoSides("-", minus(a), minus(minus(b))), "-a - -(-b)"},
		{minus(twoSides("-", minus(a), b)), "-(-a - b)"}, {minus(minus(twoSides("*", a, b))), "-(-(a * b))"}, {minus(whole(impl.MaxInt)), "-999999999999999999"},
		{twoSides("<", a, minus(b)), "a < -b"}, {twoSides("<", a, node(impl.NdRecv, b)), "a < <-b"}, {node(impl.NdRecv, minus(b)), "<--b"},
		{twoSides("+", twoSides("+", a, b), twoSides("+", c, d)), "a + b + (c + d)"}, {twoSides("*", twoSides("+", a, b), twoSides("-", c, d)), "(a + b) * (c - d)"},
		{twoSides("+", twoSides("*", a, b), twoSides("/", c, d)), "a * b + c / d"}, {twoSides("||", twoSides("&&", a, b), twoSides("&&", c, d)), "a && b || c && d"},
		{twoSides("&&", twoSides("||", a, b), twoSides("||", c, d)), "(a || b) && (c || d)"}, {twoSides("==", twoSides("<", a, b), twoSides("<", c, d)), "a < b == (c < d)"},
		{twoSides("*", a, twoSides("%", b, twoSides("/", c, d))), "a * (b % (c / d))"}, {twoSides("*", twoSides("%", twoSides("/", a, b), c), d), "a / b % c * d"},
		{twoSides("&&", signNode("!", twoSides("==", a, b)), twoSides("!=", c, d)), "!(a == b) && c != d"},
		{callOf("f", twoSides("||", a, b), minus(minus(c))), "f(a || b, -(-c))"}, {node(impl.NdRecv, callOf("f", twoSides("+", a, b))), "<-f(a + b)"},
	} {
		wantExpression(t, e.n, e.text)
	}
}
