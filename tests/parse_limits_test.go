package tests

import (
	"strings"
	"testing"

	"loop.example/g00135/impl"
)

// An opener is text that stands around other text: an @ stands ahead of each thing that is opened, a ~ behind each end of one.
type opener struct{ ahead, behind string }

var statementOpeners = []opener{
	{"@{", "}~"}, {"a++; @{a--;", ";break}~; a++"}, {"@{}~; @{@{}~;", "; @{}~}~"}, {"for @{", "}~"}, {"for a < 1 @{", "}~"}, {"for f@()~ @{", "}~; break"},
	{"select @{default:", "}~"}, {"select @{case @<-a~: a++;", " case b <- @(1)~: f@()~}~"}, {"select @{case @<-a~: @<-b~ default:", "}~"}, {"select @{case b := @<-a~:", "}~"},
	{"@if a @{", "}~~"}, {"@if a @{", "}~ else @{}~~"}, {"@if a @{}~ else @{", "}~~"}, {"@if a @{a++}~ else @if b @{", "}~~~"}, {"@if a @{}~ else @if b @{}~ else @{", "}~~~"},
	{"@if a @{", "}~ else @if b @{}~~~"}, {"@if @!a~ @{", "}~~"}, {"@if a @{}~~; @{", "}~; @if @(a)~ @{}~ else @{}~~"}, {"@if a @{}~ else @if b @{}~ else @if c @{}~~~~; @{", "}~"},
	{"go f@()~; defer f@(@(a)~)~; a := @- @-1~~; @{", "}~; print@(1)~"},
}

// signOpeners take an operand and are one; sums take any expression and are none.
var signOpeners = []opener{{"@- ", "~"}, {"@!", "~"}, {"@<-", "~"}, {"@-@!@<- ", "~~~"}}

var operandOpeners = []opener{{"@(", ")~"}, {"@(@(1 - ", ")~)~"}, {"f@(", ")~"}, {"f@(1, ", ", 2)~"}, {"f@(f@()~,@(1)~,@-a~,", ", @!b~)~"}, {"make@(chan int, ", ")~"}, {"@-@(", ")~~"}, {"@<-f@(", ")~~"}}

var sums = []opener{{"1+@(", ")~*2"}, {"@-1~ - ", " == @-1~"}, {"1 - @-@(", ")~~ - 1"}, {"@(@(a)~ + 1)~ < ", ""}, {"f@()~ * @-f@(2)~~ + make@(chan int)~ - ", ""}}

// ends are statements around an expression.
var ends = []opener{
	{"print@(", ")~"}, {"close@(", ")~"}, {"panic@(", ")~"}, {"f@(", ")~"}, {"go f@(", ")~"}, {"defer f@(1, ", ")~"}, {"go @(f@(", ")~)~"}, {"a := ", ""}, {"a = ", ""}, {"return ", ""}, {"a <- ", ""}, {"@(a)~ <- ", ""}, {"@-a~ <- ", ""}, {"", " <- a"}, {"@if ", " @{}~~"},
	{"for ", " @{}~"}, {"select @{case @<-@(", ")~~: }~"}, {"select @{case a := @<-f@(", ")~~: }~"}, {"select @{case a <- ", ": }~"}, {"select @{case ", " <- 1: }~"}, {"@if a @{}~ else @if ", " @{}~~~"},
}

// deepest takes the marks away, and tells where one more than MaxDeep things are open first.
func deepest(marked string) (string, int) {
	var text strings.Builder
	open, place := 0, -1
	for _, letter := range marked {
		switch letter {
		case '@':
			if open++; open > impl.MaxDeep && place < 0 {
				place = text.Len()
			}
		case '~':
			open--
		default:
			text.WriteRune(letter)
		}
	}
	return text.String(), place
}

// wantDeep puts marked text into ever more blocks, until MaxDeep things are open and beyond.
func wantDeep(t *testing.T, marked string, list ...opener) {
	t.Helper()
	for _, o := range list {
		marked = o.ahead + marked + o.behind
	}
	fits, far := false, false
	for blocks := 49; blocks <= impl.MaxDeep+1; blocks++ {
		text, place := deepest("func f(a int, b bool) int " + strings.Repeat("@{", blocks) + marked + strings.Repeat("}~", blocks))
		fits, far = fits || place < 0, far || place >= 0
		n, code, at := impl.Parse(text)
		switch {
		case place < 0 && (code != impl.OK || at != 0 || !impl.TreeOK(n)):
			t.Fatalf("Parse(%q) = %d, %d", text, code, at)
		case place >= 0 && (code != impl.ErrDeep || at != place || n.Kind != 0):
			t.Fatalf("Parse(%q) = %d, %d; not %d, %d", text, code, at, impl.ErrDeep, place)
		}
	}
	if !fits || !far {
		t.Errorf("%q is not tried on both sides of the limit", marked)
	}
}

func TestDeepStatements(t *testing.T) {
	for _, o := range statementOpeners {
		wantDeep(t, "", o)
		wantDeep(t, "return a", o)
		for _, p := range statementOpeners {
			wantDeep(t, "a++", o, p)
		}
	}
}

func TestDeepValues(t *testing.T) {
	for _, end := range ends {
		wantDeep(t, "a", end)
		for i, o := range append(append(append([]opener{}, signOpeners...), operandOpeners...), sums...) {
			wantDeep(t, "1", o, end)
			for _, p := range signOpeners {
				if i < len(signOpeners)+len(operandOpeners) {
					wantDeep(t, "b", o, p, end)
				}
			}
			for _, p := range append(append([]opener{}, operandOpeners...), sums...) {
				wantDeep(t, "a", o, p, end)
			}
		}
	}
}

func TestManyOfOneKindMayBeOpen(t *testing.T) {
	for _, c := range []struct {
		o           opener
		inner, full string
		most        int
	}{
		{opener{"@(", ")~"}, "1", "print@(%)~", 58}, {opener{"f@(", ")~"}, "", "f@(%)~", 58}, {opener{"make@(chan int, ", ")~"}, "1", "close@(%)~", 58},
		{opener{"@- ", "~"}, "1", "panic@(%)~", 58}, {opener{"@! ", "~"}, "a", "a := %", 59}, {opener{"@<-", "~"}, "a", "%", 59}, {opener{"@<-", "~"}, "a", "select @{case %: }~", 58},
		{opener{"@{", "}~"}, "", "%", 59}, {opener{"for @{", "}~"}, "", "%", 59}, {opener{"select @{default:", "}~"}, "", "%", 59}, {opener{"@if a @{", "}~~"}, "", "%", 29},
		{opener{"@if a @{}~ else ", "~"}, "@{}~", "%", 58}, {opener{"@if a @{", "}~ else @{}~~"}, "", "%", 29},
	} {
		for count := c.most - 1; count <= c.most+2; count++ {
			inner := strings.Repeat(c.o.ahead, count) + c.inner + strings.Repeat(c.o.behind, count)
			text, place := deepest("func f() @{" + strings.Replace(c.full, "%", inner, 1) + "}~")
			_, code, at := impl.Parse(text)
			if count <= c.most && (code != impl.OK || at != 0 || place >= 0) {
				t.Errorf("Parse(%q) = %d, %d; %d fit", text, code, at, c.most)
			}
			if count > c.most && (code != impl.ErrDeep || at != place) {
				t.Errorf("Parse(%q) = %d, %d; only %d fit", text, code, at, c.most)
			}
		}
	}
}

func TestWhatIsClosedCountsNoMore(t *testing.T) {
	for _, part := range []string{
		"{};", "{{}};", "(f());", "f(1);", "f(-1);", "print((1));", "close(-a);", "panic(!a);", "a := make(chan int, 1);", "if a {};", "if a {} else {};", "if a {} else if b {} else {};", "for {};", "for -a {};", "select {};", "select { default: };", "select { case <-a: };", "select { case a <- -1: };", "go f();", "defer f(-1);", "a <- -1;", "<-a;", "return -1;", "return;",
	} {
		text := "func f() {" + strings.Repeat(part, 70) + "}"
		if n, code, at := impl.Parse(text); code != impl.OK || len(n.Kids[0].Kids[0].Kids) != 70 {
			t.Errorf("70 times %q has code %d at %d", part, code, at)
		}
	}
	for _, part := range []string{"(1) + ", "-1 + ", "!a && ", "<-a - ", "f() * ", "make(chan int) == "} {
		text := "func f() { a := " + strings.Repeat(part, 100) + "1 }"
		if _, code, at := impl.Parse(text); code != impl.OK {
			t.Errorf("100 times %q has code %d at %d", part, code, at)
		}
	}
	text := "func f(" + strings.Repeat("a int, ", 100) + "b int) {}\n"
	if _, code, at := impl.Parse(strings.Repeat(text, 5)); code != impl.OK {
		t.Errorf("functions of 101 parameters have code %d at %d", code, at)
	}
	text = "func f() {" + strings.Repeat("{", 59) + strings.Repeat("}", 60) + "\n"
	if _, code, at := impl.Parse(strings.Repeat(text, 5)); code != impl.OK {
		t.Errorf("five functions of %d blocks have code %d at %d", 60, code, at)
	}
}

// A token that can not stand there is no thing that is opened, however many there are.
func TestWrongTokensWhereMostIsOpen(t *testing.T) {
	ahead := "func f() " + strings.Repeat("{", impl.MaxDeep)
	for _, marked := range []string{
		"a := @{", "a := 1 @(", "a := 1 @{", "a++ @(", "a++ @{", "a := @if", "a := 1 @if", "a := 1 @!", "a := 1 @<-", "break @if", "for @if", "print @-", "print @{", "close @a(", "select @(", "go @if", "a := b @!c", "return @{", "return 1 @if", "a <- 1 @{", "a <- @{", "for 1 @(", "for a @if",
	} {
		wantWrong(t, ahead+marked, impl.ErrSyntax)
	}
	for _, marked := range []string{
		"@{", "@(", "@-", "@!", "@<-", "@if", "f@(", "print@(", "close@(", "panic@(", "for @{", "for a @{", "for f@(", "select @{", "a := @(", "a := @-", "a := f@(", "a := make@(", "return @(", "return @<-", "a <- @-", "go f@(", "go @(", "defer @-", "make@(", "a := 1 + @(", "a := 1 + @-1", "a := b - @-b",
	} {
		wantWrong(t, ahead+marked, impl.ErrDeep)
	}
	for _, marked := range []string{"@a", "@a {", "@1 (", "@a if", "@1 !", "go @a", "go @a {", "@true (", "@a + 1 (a)"} {
		wantWrong(t, ahead+marked, impl.ErrForm)
	}
	for _, marked := range []string{"a + @(b)", "go a + @-b", "go a + f@()", "defer 1 - @!a", "@-a"} {
		wantWrong(t, ahead+marked, impl.ErrDeep)
	}
	select60 := "func f() " + strings.Repeat("{", impl.MaxDeep-1) + "select {"
	wantWrong(t, select60+"case @<-a:", impl.ErrDeep)
	wantWrong(t, select60+"case a := @<-b:", impl.ErrDeep)
	wantWrong(t, select60+"case a := @b:", impl.ErrForm)
	wantWrong(t, select60+"case @a + b:", impl.ErrForm)
	wantWrong(t, select60+"case a <- @-1:", impl.ErrDeep)
	wantWrong(t, select60+"default: @{", impl.ErrDeep)
	wantWrong(t, select60+"@{", impl.ErrSyntax)
}

func wantMany(t *testing.T, text string, size int) {
	t.Helper()
	n, code, at := impl.Parse(text)
	switch {
	case size <= impl.MaxNodes && (code != impl.OK || at != 0 || impl.Size(n) != size):
		t.Errorf("Parse of a text of %d nodes (%.50q) has code %d at %d, and %d nodes", size, text, code, at, impl.Size(n))
	case size > impl.MaxNodes && (code != impl.ErrMany || at != 0 || n.Kind != 0 || len(n.Kids) != 0):
		t.Errorf("Parse of a text of %d nodes (%.50q) has code %d at %d, and %d nodes", size, text, code, at, impl.Size(n))
	}
}

func TestTextsOfMaxNodes(t *testing.T) {
	for count := 596; count <= 600; count++ {
		wantMany(t, "func f() {"+strings.Repeat("break;", count)+"}", count+3)
		wantMany(t, "func f("+strings.Repeat("a int,", count)+"b int) {}", count+4)
	}
	for count := 296; count <= 300; count++ {
		wantMany(t, strings.Repeat("func f() {}\n", count), 2*count+1)
		wantMany(t, "func f() { a = "+strings.Repeat("1+", count)+"1}", 2*count+5)
		wantMany(t, "func f() { f("+strings.Repeat("-1,", count)+"((1)))}", 2*count+6)
		wantMany(t, "func f() { select {"+strings.Repeat("default: ", count)+"}}", 2*count+4)
	}
	for count := 195; count <= 205; count++ {
		wantMany(t, "func f() {"+strings.Repeat("f(a);", count)+"}", 3*count+3)
		wantMany(t, "func f() {"+strings.Repeat("select { };;{};for {};\n", count/2)+"}", 4*(count/2)+3)
	}
	wantMany(t, "func f() {"+strings.Repeat("break;", 1900)+"}", 1903)
	wantMany(t, "func f() { a = "+strings.Repeat("1+", 1990)+"1}", 3985)
}

// Too many nodes are told behind all other faults.
func TestOtherFaultsOfTextsOfTooManyNodes(t *testing.T) {
	many := "func f() {" + strings.Repeat("break;", 700)
	wantMany(t, many+"}", 703)
	wantWrong(t, many+"@", impl.ErrSyntax)
	wantWrong(t, many+"@)}", impl.ErrSyntax)
	wantWrong(t, many+"@a}", impl.ErrForm)
	wantWrong(t, many+"} @}", impl.ErrSyntax)
	wantWrong(t, many+strings.Repeat("{", 59)+"@{", impl.ErrDeep)
	wantWrong(t, many+"}; @$", impl.ErrSyntax)
	wantWrong(t, many+"}; @007", impl.ErrSyntax)
}

// Faults of tokens are told ahead of all others, wherever they stand.
func TestFaultsOfTokensGoAhead(t *testing.T) {
	for _, wrong := range []string{"x", "func f() { a }", "func f() {", "func f() { go 1 }", "func f() " + strings.Repeat("{", 70), "func f() {" + strings.Repeat("break;", 700) + "}", "}", "func f() {} func g() {}"} {
		wantWrong(t, wrong+" @&", impl.ErrSyntax)
		wantWrong(t, wrong+" @1a "+wrong, impl.ErrSyntax)
		wantWrong(t, wrong+"\n@"+strings.Repeat("n", impl.MaxName+1), impl.ErrSyntax)
		list, _, _ := impl.Tokens(wrong + ";")
		wantWrong(t, wrong+";"+strings.Repeat(";", impl.MaxTokens-len(list))+"@;", impl.ErrMany)
		wantWrong(t, "@"+wrong+strings.Repeat(" ", impl.MaxText), impl.ErrLong)
	}
	wantWrong(t, "@"+strings.Repeat(" ", impl.MaxText+1), impl.ErrLong)
	wantTree(t, strings.Repeat(" ", impl.MaxText), "(file)")
	wantTree(t, strings.Repeat(";", impl.MaxTokens), "(file)")
	wantTree(t, strings.Repeat(" ", impl.MaxText-len("func f() {}"))+"func f() {}", "(file (func f (block)))")
	wantWrong(t, strings.Repeat(" ", impl.MaxText-1)+"@x", impl.ErrSyntax)
	wantWrong(t, strings.Repeat(" ", impl.MaxText-len("func f() {"))+"func f() {@", impl.ErrSyntax)
}
