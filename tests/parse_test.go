package tests

import (
	"strconv"
	"strings"
	"testing"

	"loop.example/g00135/impl"
)

var kindWords = strings.Fields("none file func param block define assign step send expr if for return go defer select case break continue close print panic int bool var call make unary binary recv pick")

// show writes a tree down: a word for its Kind, its Name, its N if that is not 0, its kids.
func show(n impl.Node) string {
	var text strings.Builder
	text.WriteString("(" + kindWords[n.Kind])
	if n.Name != "" {
		text.WriteString(" " + n.Name)
	}
	if n.N != 0 {
		text.WriteString(" " + strconv.Itoa(n.N))
	}
	text.WriteString(showAll(n.Kids) + ")")
	return text.String()
}

func showAll(list []impl.Node) string {
	var text strings.Builder
	for _, n := range list {
		text.WriteString(" " + show(n))
	}
	return text.String()
}

func wantTree(t *testing.T, text, want string) {
	t.Helper()
	n, code, at := impl.Parse(text)
	if got := show(n); code != impl.OK || at != 0 || got != want {
		t.Errorf("Parse(%q) = %s, %d, %d; not %s", text, got, code, at, want)
	}
	if code == impl.OK && !impl.TreeOK(n) {
		t.Errorf("Parse(%q) has a tree that is not right", text)
	}
}

// wantBody asks for the statements of a function that has such a text inside.
func wantBody(t *testing.T, text, want string) {
	t.Helper()
	if want != "" {
		want = " " + want
	}
	wantTree(t, "func f() {"+text+"}", "(file (func f (block"+want+")))")
}

// wantValue asks for an expression: as what is printed, and in parentheses.
func wantValue(t *testing.T, text, want string) {
	t.Helper()
	wantBody(t, "print("+text+")", "(print "+want+")")
	wantBody(t, "a := "+text, "(define a "+want+")")
	wantBody(t, "a = (("+text+"))", "(assign a "+want+")")
}

// wantWrong asks for a fault at the place where an @ stands in the text.
func wantWrong(t *testing.T, marked string, wantCode int) {
	t.Helper()
	wantAt := strings.Index(marked, "@")
	text := strings.Replace(marked, "@", "", 1)
	n, code, at := impl.Parse(text)
	if code != wantCode || at != wantAt || n.Kind != 0 || n.N != 0 || n.Name != "" || len(n.Kids) != 0 {
		t.Errorf("Parse(%.200q) = %.200s, %d, %d; not a code %d at %d", text, show(n), code, at, wantCode, wantAt)
	}
}

func wantWrongBody(t *testing.T, code int, bodies ...string) {
	t.Helper()
	for _, marked := range bodies {
		wantWrong(t, "func f() {"+marked+"}", code)
	}
}

func TestConstantsOfTrees(t *testing.T) {
	kinds := []int{
		impl.NdFile, impl.NdFunc, impl.NdParam, impl.NdBlock, impl.NdDefine, impl.NdAssign, impl.NdStep, impl.NdSend, impl.NdExpr, impl.NdIf,
		impl.NdFor, impl.NdReturn, impl.NdGo, impl.NdDefer, impl.NdSelect, impl.NdCase, impl.NdBreak, impl.NdContinue, impl.NdClose, impl.NdPrint,
		impl.NdPanic, impl.NdInt, impl.NdBool, impl.NdVar, impl.NdCall, impl.NdMake, impl.NdUnary, impl.NdBinary, impl.NdRecv, impl.NdPick,
	}
	for i, kind := range kinds {
		if kind != i+1 {
			t.Errorf("the Kind %s is %d, not %d", kindWords[i+1], kind, i+1)
		}
	}
	for i, number := range []int{impl.TyNone, impl.TyInt, impl.TyBool, impl.TyChan} {
		if number != i {
			t.Errorf("type %d is %d", i, number)
		}
	}
	if impl.MaxNodes != 600 || impl.MaxDeep != 60 || impl.MaxInt != 999999999999999999 {
		t.Error("limits", impl.MaxNodes, impl.MaxDeep, impl.MaxInt)
	}
}

func TestFiles(t *testing.T) {
	for _, text := range []string{"", " ", "\n", " \n\n", ";", ";;", "\n;\n;;", "// nothing", "//\n;"} {
		wantTree(t, text, "(file)")
	}
	f := "(func f (block))"
	for _, text := range []string{"func f() {}", "func f() {};", ";;func f() {};;", "\n\nfunc f() {\n}\n\n", "func\nf(\n) {\n}", " func f(){}// end"} {
		wantTree(t, text, "(file "+f+")")
	}
	for _, text := range []string{"func f() {}\nfunc g() {}\n", "func f() {};func g() {}", ";func f() {};;\n;func g() {};", "func f() {\n}\n\nfunc g() {\n}"} {
		wantTree(t, text, "(file "+f+" (func g (block)))")
	}
	for _, marked := range []string{
		"@x", "@{", "@}", "@f() {}", "@if", "@1", "func f() {} @func g() {}", "func f() {} @x", "func f() {} @}", "func f() {}\n@g", "func f() {};@print(1)", "func f() {};;@,", "; @:",
	} {
		wantWrong(t, marked, impl.ErrSyntax)
	}
}

func TestFunctions(t *testing.T) {
	wantTree(t, "func f(a int) {}", "(file (func f (param a 1) (block)))")
	wantTree(t, "func f(a int, b bool, c chan int) {}", "(file (func f (param a 1) (param b 2) (param c 3) (block)))")
	wantTree(t, "func f(\na int,\nb bool) int {}", "(file (func f 1 (param a 1) (param b 2) (block)))")
	wantTree(t, "func f(a chan\nint) chan int { return a }", "(file (func f 3 (param a 3) (block (return (var a)))))")
	wantTree(t, "func f() bool { return true }", "(file (func f 2 (block (return (bool 1)))))")
	wantTree(t, "func f(f int, f int) {}", "(file (func f (param f 1) (param f 1) (block)))")
	for _, marked := range []string{
		"func @", "func @1", "func @func", "func @if() {}", "func @(a int) {}", "func f@", "func f @\n () {}", "func f @{}", "func f @a", "func f @)",
		"func f(@", "func f(@,) {}", "func f(@int) {}", "func f(@1) {}", "func f(@;) {}", "func f(a@", "func f(a@) {}", "func f(a @, b int) {}", "func f(a @b) {}",
		"func f(a int@", "func f(a int @b int) {}", "func f(a int@;) {}", "func f(a int@\n) {}", "func f(a int, @) {}", "func f(a int, @", "func f(a int,@, b int) {}",
		"func f(a chan @) {}", "func f(a chan @bool) {}", "func f(a chan @chan int) {}", "func f(a @func) {}", "func f(a int @\n, b int) {}",
		"func f()@", "func f()@;", "func f()@\n{}", "func f() @a {}", "func f() @1", "func f() @(int) {}", "func f() chan @{}", "func f() chan@", "func f() int@", "func f() int@\n{}", "func f() int @int {}", "func f() int @)",
		"func f() {@", "func f() {\n@", "func f() { // }\n@", "func f() {;;@", "func f() {} @}",
	} {
		wantWrong(t, marked, impl.ErrSyntax)
	}
}

func TestSimpleStatements(t *testing.T) {
	for text, want := range map[string]string{
		"":                       "",
		" break ":                "(break)",
		"continue":               "(continue)",
		"a := 1":                 "(define a (int 1))",
		"a = b":                  "(assign a (var b))",
		"a++":                    "(step a 1)",
		"a--":                    "(step a -1)",
		"a\t++":                  "(step a 1)",
		"a :=\n1":                "(define a (int 1))",
		"a <- 1":                 "(send (var a) (int 1))",
		"a <- <-b":               "(send (var a) (recv (var b)))",
		"a<--1":                  "(send (var a) (unary - (int 1)))",
		"<-a":                    "(expr (recv (var a)))",
		"<-a <- 1":               "(send (recv (var a)) (int 1))",
		"<-<-a":                  "(expr (recv (recv (var a))))",
		"<-a()":                  "(expr (recv (call a)))",
		"(<-a)":                  "(expr (recv (var a)))",
		"((f()))":                "(expr (call f))",
		"f()":                    "(expr (call f))",
		"f() <- 1":               "(send (call f) (int 1))",
		"f(1,a,true)":            "(expr (call f (int 1) (var a) (bool 1)))",
		"1 + 2 <- a == b":        "(send (binary + (int 1) (int 2)) (binary == (var a) (var b)))",
		"make(chan int) <- 1":    "(send (make) (int 1))",
		"true <- false":          "(send (bool 1) (bool))",
		"7 <- 8":                 "(send (int 7) (int 8))",
		"-a <- 1":                "(send (unary - (var a)) (int 1))",
		"!a <- 1":                "(send (unary ! (var a)) (int 1))",
		"(a) <- 1":               "(send (var a) (int 1))",
		"a + b <- 1":             "(send (binary + (var a) (var b)) (int 1))",
		"go f()":                 "(go (call f))",
		"go f(1, 2)":             "(go (call f (int 1) (int 2)))",
		"go (f())":               "(go (call f))",
		"defer f()":              "(defer (call f))",
		"defer ((f(a)))":         "(defer (call f (var a)))",
		"close(a)":               "(close (var a))",
		"print(1 + 2)":           "(print (binary + (int 1) (int 2)))",
		"panic(f())":             "(panic (call f))",
		"print(\n1)":             "(print (int 1))",
		"return":                 "(return)",
		"return 1":               "(return (int 1))",
		"return;":                "(return)",
		"return\n":               "(return)",
		"return <-a":             "(return (recv (var a)))",
		"return (a)":             "(return (var a))",
		"return -1; return":      "(return (unary - (int 1))) (return)",
		"{}":                     "(block)",
		"{{};{}}":                "(block (block) (block))",
		"{ a++ }":                "(block (step a 1))",
		"a := f; g(a)":           "(define a (var f)) (expr (call g (var a)))",
		"a := b\na = a; a++;a--": "(define a (var b)) (assign a (var a)) (step a 1) (step a -1)",
	} {
		wantBody(t, text, want)
	}
}

func TestSemicolons(t *testing.T) {
	for _, text := range []string{
		"f();g()", "f()\ng()", "f();g();", "f()\ng()\n", ";f();g()", ";;f();;;g();;", "\nf()\n\n\ng()\n\n", "f(); // f\n g() // g\n", "f();\n;\ng()\n;",
	} {
		wantBody(t, text, "(expr (call f)) (expr (call g))")
	}
	wantBody(t, ";", "")
	wantBody(t, ";;\n;", "")
	wantBody(t, "{;}", "(block)")
	wantBody(t, "if a {;f();};", "(if (var a) (block (expr (call f))))")
	wantWrongBody(t, impl.ErrSyntax,
		"f() @f()", "f() @{}", "{} @f()", "{} @{}", "a := 1 @2", "a := 1 @b", "a = 1 @:= 2", "a++ @b", "a++ @++", "a-- @-- ", "break @break", "continue @1", "break @a", "return 1 @2", "return a @b", "return f() @,",
		"go f() @g()", "defer f() @if", "close(a) @b", "print(1) @+ 2", "panic(1) @<- 1", "f() @, g()", "f() @)", "f() @:", "f() @= 1", "f() @:= 1", "f()@++", "a <- 1 @<- 2", "a <- b @:= 2", "<-a @:", "if a {} @f()", "for {} @f()", "select {} @f()",
		"f() @else {}", "if a {}\n@else {}", "if a {};@else {}", "if a {} else {} @else {}", "for {} @else {}", "f() @case", "f();@default:", "@case <-a:", "@default: f()", "{f(); @case}",
	)
}

func TestWordsThatBeginNoStatement(t *testing.T) {
	for _, word := range strings.Fields("func else case default chan int bool , : ) = := == != <= >= && || ++ -- + * / % < >") {
		wantWrongBody(t, impl.ErrSyntax, "@"+word, "f();@"+word, "{@"+word, "@"+word+" a")
	}
}

func TestIfs(t *testing.T) {
	for text, want := range map[string]string{
		"if a {}":                                   "(if (var a) (block))",
		"if a { f() }":                              "(if (var a) (block (expr (call f))))",
		"if a {} else {}":                           "(if (var a) (block) (block))",
		"if a {\n} else {\nf()\n}\n":                "(if (var a) (block) (block (expr (call f))))",
		"if a {} else if b {}":                      "(if (var a) (block) (if (var b) (block)))",
		"if a {} else if b {} else {}":              "(if (var a) (block) (if (var b) (block) (block)))",
		"if a {} else if b {} else if c {} else {}": "(if (var a) (block) (if (var b) (block) (if (var c) (block) (block))))",
		"if a {} else { if b {} else {} }":          "(if (var a) (block) (block (if (var b) (block) (block))))",
		"if a { if b {} } else {}":                  "(if (var a) (block (if (var b) (block))) (block))",
		"if (a) {}":                                 "(if (var a) (block))",
		"if !a && b {}":                             "(if (binary && (unary ! (var a)) (var b)) (block))",
		"if f() {}":                                 "(if (call f) (block))",
		"if <-a {}":                                 "(if (recv (var a)) (block))",
	} {
		wantBody(t, text, want)
	}
	wantWrongBody(t, impl.ErrSyntax,
		"if @{}", "if @}", "if @", "if @;", "if a @}", "if a@;{}", "if a@\n{}", "if a @b {}", "if a @:= 1 {}", "if a {} else @", "if a {} else @f()", "if a {} else @;", "if a {} else @for {}", "if a {} else if @{}", "if a {} else if b @f()", "if a @<- 1 {}", "if @if a {} {}",
	)
}

func TestFors(t *testing.T) {
	for text, want := range map[string]string{
		"for {}":              "(for (block))",
		"for { f() }":         "(for (block (expr (call f))))",
		"for a {}":            "(for (var a) (block))",
		"for a < 1 {\na++\n}": "(for (binary < (var a) (int 1)) (block (step a 1)))",
		"for { break }":       "(for (block (break)))",
		"for { continue }":    "(for (block (continue)))",
		"for f() {}":          "(for (call f) (block))",
		"for for_ {}":         "(for (var for_) (block))",
	} {
		wantBody(t, text, want)
	}
	wantWrongBody(t, impl.ErrSyntax, "for @}", "for @;{}", "for a @}", "for a@\n{}", "for a @:= 1 {}", "for a @; b {}", "for @for {} {}", "for a @b {}", "for a @, {}")
}

func TestSelects(t *testing.T) {
	for text, want := range map[string]string{
		"select {}":                                                   "(select)",
		"select {\n}":                                                 "(select)",
		"select { default: }":                                         "(select (case (block)))",
		"select { default: f() }":                                     "(select (case (block (expr (call f)))))",
		"select { case <-a: }":                                        "(select (case 1 (var a) (block)))",
		"select { case b := <-a: }":                                   "(select (case b 1 (var a) (block)))",
		"select { case b := (<-a): }":                                 "(select (case b 1 (var a) (block)))",
		"select { case (<-a): }":                                      "(select (case 1 (var a) (block)))",
		"select { case <-f(): }":                                      "(select (case 1 (call f) (block)))",
		"select { case <-<-a: }":                                      "(select (case 1 (recv (var a)) (block)))",
		"select { case <-(a + b): }":                                  "(select (case 1 (binary + (var a) (var b)) (block)))",
		"select { case a <- 1: }":                                     "(select (case 2 (var a) (int 1) (block)))",
		"select { case a <- <-b: }":                                   "(select (case 2 (var a) (recv (var b)) (block)))",
		"select { case <-a <- 1: }":                                   "(select (case 2 (recv (var a)) (int 1) (block)))",
		"select { case f() <- 1 + 2: }":                               "(select (case 2 (call f) (binary + (int 1) (int 2)) (block)))",
		"select { case 1 <- 2: }":                                     "(select (case 2 (int 1) (int 2) (block)))",
		"select { default: default: }":                                "(select (case (block)) (case (block)))",
		"select { case <-a: f(); g() case <-b: }":                     "(select (case 1 (var a) (block (expr (call f)) (expr (call g)))) (case 1 (var b) (block)))",
		"select { case <-a:\nf()\ndefault:\ng()\n}":                   "(select (case 1 (var a) (block (expr (call f)))) (case (block (expr (call g)))))",
		"select { case <-a: f() default: g() }":                       "(select (case 1 (var a) (block (expr (call f)))) (case (block (expr (call g)))))",
		"select { case <-a:;;f();; default:; }":                       "(select (case 1 (var a) (block (expr (call f)))) (case (block)))",
		"select { case <-a: {} default: {f()} }":                      "(select (case 1 (var a) (block (block))) (case (block (block (expr (call f))))))",
		"select { case <-a: return; default: return }":                "(select (case 1 (var a) (block (return))) (case (block (return))))",
		"select { case <-a: return\ncase <-b: }":                      "(select (case 1 (var a) (block (return))) (case 1 (var b) (block)))",
		"select { case <-a: return 1 case <-b: }":                     "(select (case 1 (var a) (block (return (int 1)))) (case 1 (var b) (block)))",
		"select { case <-a: break default: continue }":                "(select (case 1 (var a) (block (break))) (case (block (continue))))",
		"select { case <-a: select { case <-b: default: } default: }": "(select (case 1 (var a) (block (select (case 1 (var b) (block)) (case (block))))) (case (block)))",
		"select { case\n<-a\t: }":                                     "(select (case 1 (var a) (block)))",
	} {
		wantBody(t, text, want)
	}
	wantWrongBody(t, impl.ErrSyntax,
		"select @}", "select @a {}", "select @;{}", "select @case", "select { @f() }", "select { @; }", "select { @;default: }", "select { @{} }", "select { @: }", "select { default @}", "select { default @a: }", "select { default @; }", "select { default :@: }",
		"select { case @: }", "select { case @} ", "select { case @default: }", "select { case <-a @}", "select { case <-a @; }", "select { case <-a@\n: }", "select { case <-a @{}", "select { case a := @: }", "select { case a := @} ", "select { case a := <-b @<- 1: }", "select { case a := <-b @}",
		"select { case a <- @: }", "select { case a <- 1 @<- 2: }", "select { case a <- 1 @}", "select { case a <- 1 @:= 2: }", "select { case @:= <-a: }", "select { case <-a: f() @g() }", "select { case <-a @:= <-b: }",
		"select { case <-a: return @case <-b: }", "select { case <-a: return @default: }", "select { default: @else }", "select { case @if }",
	)
}

func TestExpressionsOfAFormThatIsNotDue(t *testing.T) {
	wantWrongBody(t, impl.ErrForm,
		"@a", "@1", "@true", "@false", "@make(chan int)", "@make(chan int, 1)", "@(a)", "@((a))", "@-a", "@!a", "@-f()", "@!f()", "@!<-a", "@a + b", "@f() + g()", "@<-a + <-b", "@(f()) + 1", "@f() == g()", "@-(1)", "@(a)(b)", "f();@a", "{@a}", "@a;f()", "@a\nf()",
		"@a b", "@a f()", "@a )", "@a , b", "@a {}", "@a : f()", "@1 = 2", "@1 := 2", "@1 ++", "@(a) := 2", "@(a)++", "@a + b := 3", "@a + b ++", "@1 2", "@1 (2)", "@true (1)", "@-a++", "@a case", "@a if", "@a else", "@a return", "@a;}", "@1 }}", "@a + f() case",
		"go @1", "go @a", "go @<-a", "go @-f()", "go @f() + 1", "go @(a)", "go @make(chan int)", "go @true", "go @a := 1", "go @a++", "go @a <- 1", "go @a b", "go @(a)()", "go @<-f()",
		"defer @1", "defer @a", "defer @<-a", "defer @!f()", "defer @f() + 1", "defer @(a + b)", "defer @a = 1", "defer @a <- 1", "defer @a {}",
		"select { case @1: }", "select { case @a: }", "select { case @f(): }", "select { case @-a: }", "select { case @<-a + 1: }", "select { case @a + <-b: }", "select { case @(a): }", "select { case @(f()): }", "select { case @a = <-b: }", "select { case @a++: }", "select { case @a b: }", "select { case @(a) := <-b: }", "select { case @1 := <-b: }", "select { case @true }", "select { case @a }", "select { case @a;}",
		"select { case a := @1: }", "select { case a := @b: }", "select { case a := @f(): }", "select { case a := @(b): }", "select { case a := @-<-b: }", "select { case a := @<-b + 1: }", "select { case a := @b <- 1: }", "select { case a := @b := <-c: }", "select { case a := @b }", "select { case a := @(b) <- 1: }", "select { default: case @a: }", "select { case <-a: case @a: }",
	)
	wantWrong(t, "func f() { @a", impl.ErrForm)
	wantWrong(t, "func f() { @a // a", impl.ErrForm)
	wantWrong(t, "func f() { go @a", impl.ErrForm)
	wantWrong(t, "func f() { select { case @a", impl.ErrForm)
	wantWrong(t, "func f() { select { case a := @b", impl.ErrForm)
}

// What is told at the end of an expression comes behind what is met ahead of that end.
func TestFaultsAheadOfTheEndOfAnExpression(t *testing.T) {
	wantWrongBody(t, impl.ErrSyntax,
		"a + @", "a + @}", "(a@;", "(a @b)", "1 + (2@\n)", "make(@1)", "make @1", "make(chan @) + 1", "make(chan int@", "make(chan int, @)", "make(chan int, 1 @2)", "make(chan int, 1 @, 2)", "-@", "!@;", "- @)", "-a + @;", "f() + @;", "f() + @,", "(f() @g())",
		"go @", "go @;", "go a + @;", "go (a@;", "go 1 + @if", "defer @}", "defer f(@,)", "defer (f()@;", "defer a + @+", "a + b <- @;", "a <- @", "a <- @}", "1 <- @:=",
		"select { case a + @: }", "select { case (a@;", "select { case a := b + @: }", "select { case a := (b @: }", "select { case f(@: }", "select { case 1 + @} ",
	)
	wantWrong(t, "func f() { a + @", impl.ErrSyntax)
	wantWrong(t, "func f() { a + // b\n@", impl.ErrSyntax)
	wantWrong(t, "func f() { go (a@", impl.ErrSyntax)
}

func TestOperands(t *testing.T) {
	for text, want := range map[string]string{
		"0":                              "(int)",
		"7":                              "(int 7)",
		"999999999999999999":             "(int 999999999999999999)",
		"100000000000000000":             "(int 100000000000000000)",
		"true":                           "(bool 1)",
		"false":                          "(bool)",
		"a":                              "(var a)",
		"_":                              "(var _)",
		"f()":                            "(call f)",
		"f (a)":                          "(call f (var a))",
		"f(\n)":                          "(call f)",
		"f(a,\nb)":                       "(call f (var a) (var b))",
		"f(g(h()), -1)":                  "(call f (call g (call h)) (unary - (int 1)))",
		"f(a + b, (c))":                  "(call f (binary + (var a) (var b)) (var c))",
		"f(<-a, <-b)":                    "(call f (recv (var a)) (recv (var b)))",
		"make(chan int)":                 "(make)",
		"make(chan int, 2)":              "(make (int 2))",
		"make(\nchan\nint, a + b)":       "(make (binary + (var a) (var b)))",
		"make(chan int, make(chan int))": "(make (make))",
		"(a)":                            "(var a)",
		"((((a))))":                      "(var a)",
		"(\na)":                          "(var a)",
	} {
		wantValue(t, text, want)
	}
	wantWrongBody(t, impl.ErrSyntax,
		"print(@)", "print(@,)", "print(1 @, 2)", "print(1@;", "print @1", "print @;", "print @}", "print @a(1)", "close @", "close @a", "close(@)", "panic @;", "panic(@)", "panic(a @b)", "close(a @:= 1)", "print(a @= 1)", "print(a@++)", "print(a @<- 1)", "print(@if)", "print(@print(1))", "print(@close(a))", "print(@panic(1))", "print(@{})", "print(@int)", "print(@chan int)", "print(@func)", "print(@:= 1)", "print(@+ 1)", "print(@* 1)", "print(@--a)", "print(@++a)", "print(1 @--)",
		"a := @", "a := @}", "a := @;", "a := @:= 1", "a = @= 1", "a = @", "a := @if", "a := b @:= 1", "a := (@)", "a := (1 @, 2)", "a := (1 @}", "a := f(@", "a := f(@,", "a := f(1@", "a := f(1,@)", "a := f(1 @2)", "a := f(1@;)", "a := f(@;)", "a := f(1@\n)", "a := f() @(1)", "a := 1 @(2)", "a := true @(1)", "a := (f) @(1)", "a := make @", "a := make(@)", "a := make(@int)", "a := make(chan @)", "a := make(chan @bool)", "a := make(chan int @1)", "a := make(chan int,@)", "a := make(chan int, 1 @, 1)", "a := make(chan int, 1@;)", "a := make(chan int)@(1)", "a := make(chan int@\n)",
	)
	wantWrong(t, "func f() { a := @", impl.ErrSyntax)
	wantWrong(t, "func f() { a := f(1,@", impl.ErrSyntax)
	wantWrong(t, "func f() { a := 1\n@", impl.ErrSyntax)
	wantWrong(t, "func f() { a := 1@", impl.ErrSyntax)
}
