package tests

import (
	"slices"
	"strings"
	"testing"

	"loop.example/g00135/impl"
)

// allSigns are those of chapter 2, written down apart from the program's.
var allSigns = strings.Fields(":= == != <= >= && || <- ++ -- + - * / % < > ! = ( ) { } , :")

func name(text string, at int) impl.Token   { return impl.Token{Kind: impl.TkName, Text: text, At: at} }
func number(text string, at int) impl.Token { return impl.Token{Kind: impl.TkInt, Text: text, At: at} }
func key(text string, at int) impl.Token    { return impl.Token{Kind: impl.TkKey, Text: text, At: at} }
func op(text string, at int) impl.Token     { return impl.Token{Kind: impl.TkOp, Text: text, At: at} }
func semi(at int) impl.Token                { return impl.Token{Kind: impl.TkSemi, Text: ";", At: at} }
func added(at int) impl.Token               { return impl.Token{Kind: impl.TkSemi, At: at} }

func wantTokens(t *testing.T, text string, want ...impl.Token) {
	t.Helper()
	got, code, at := impl.Tokens(text)
	if code != impl.OK || at != 0 || !slices.Equal(got, want) {
		t.Errorf("Tokens(%.60q) = %v, %d, %d; not %v", text, got, code, at, want)
	}
}

func wantCount(t *testing.T, text string, count int) {
	t.Helper()
	got, code, at := impl.Tokens(text)
	if code != impl.OK || at != 0 || len(got) != count {
		t.Errorf("Tokens(%.20q of %d bytes) = %d tokens, %d, %d; not %d tokens", text, len(text), len(got), code, at, count)
	}
}

func wantFault(t *testing.T, text string, wantCode, wantAt int) {
	t.Helper()
	got, code, at := impl.Tokens(text)
	if code != wantCode || at != wantAt || len(got) != 0 {
		t.Errorf("Tokens(%.60q of %d bytes) = %d tokens, %d, %d; not a code %d at %d", text, len(text), len(got), code, at, wantCode, wantAt)
	}
}

func TestTokensOfAProgram(t *testing.T) {
	wantTokens(t, "func main() {\n\tc := make(chan int, 2); go f(c)\n\tx--\n}\n",
		key("func", 0), name("main", 5), op("(", 9), op(")", 10), op("{", 12),
		name("c", 15), op(":=", 17), key("make", 20), op("(", 24), key("chan", 25), key("int", 30), op(",", 33), number("2", 35), op(")", 36), semi(37),
		key("go", 39), name("f", 42), op("(", 43), name("c", 44), op(")", 45), added(46),
		name("x", 48), op("--", 49), added(51), op("}", 52), added(53))
	wantTokens(t, "a_1<=-2&&!b||c%d!=0", name("a_1", 0), op("<=", 3), op("-", 5), number("2", 6), op("&&", 7), op("!", 9), name("b", 10),
		op("||", 11), name("c", 13), op("%", 14), name("d", 15), op("!=", 16), number("0", 18), added(19))
}

func TestTextsWithoutTokens(t *testing.T) {
	for _, text := range []string{"", " ", "\t", "\r", "\n", "\n\n\n", "//", "// a b & é", "//\n", " \t\r\n // $ \x00\xff\n\n"} {
		wantTokens(t, text)
	}
}

func TestLongestText(t *testing.T) {
	wantTokens(t, strings.Repeat(" ", impl.MaxText))
	wantTokens(t, strings.Repeat(" ", impl.MaxText-1)+"x", name("x", impl.MaxText-1), added(impl.MaxText))
	wantTokens(t, "x//"+strings.Repeat("&", impl.MaxText-3), name("x", 0), added(impl.MaxText))
	wantFault(t, strings.Repeat(" ", impl.MaxText-1)+"&", impl.ErrSyntax, impl.MaxText-1)
	wantFault(t, strings.Repeat(" ", impl.MaxText+1), impl.ErrLong, 0)
	wantFault(t, strings.Repeat(" ", 3*impl.MaxText), impl.ErrLong, 0)
}

func TestLongTextIsToldAheadOfAllElse(t *testing.T) {
	wantFault(t, "&"+strings.Repeat(" ", impl.MaxText-1), impl.ErrSyntax, 0)
	wantFault(t, "&"+strings.Repeat(" ", impl.MaxText), impl.ErrLong, 0)
	wantFault(t, strings.Repeat("(", impl.MaxText), impl.ErrMany, impl.MaxTokens)
	wantFault(t, strings.Repeat("(", impl.MaxText+1), impl.ErrLong, 0)
	wantFault(t, strings.Repeat("a", impl.MaxText), impl.ErrSyntax, 0)
	wantFault(t, strings.Repeat("a", impl.MaxText+1), impl.ErrLong, 0)
}

func TestLongestWord(t *testing.T) {
	full := strings.Repeat("w", impl.MaxName)
	wantTokens(t, full, name(full, 0), added(impl.MaxName))
	wantTokens(t, full[1:]+"9", name(full[1:]+"9", 0), added(impl.MaxName))
	wantTokens(t, full+" "+full, name(full, 0), name(full, impl.MaxName+1), added(2*impl.MaxName+1))
	wantFault(t, full+"w", impl.ErrSyntax, 0)
	wantFault(t, full+"_", impl.ErrSyntax, 0)
	wantFault(t, full+"0", impl.ErrSyntax, 0)
	wantFault(t, "x = "+full+"w + 1", impl.ErrSyntax, 4)
	wantTokens(t, "(//"+full+full, op("(", 0))
}

func TestNumbers(t *testing.T) {
	for _, text := range []string{"0", "1", "9", "10", "90", "100", "999999999999999999", "100000000000000000"} {
		wantTokens(t, text, number(text, 0), added(len(text)))
	}
	wantTokens(t, "-0", op("-", 0), number("0", 1), added(2))
	wantTokens(t, "0 0", number("0", 0), number("0", 2), added(3))
	wantTokens(t, "1-2", number("1", 0), op("-", 1), number("2", 2), added(3))
	for _, text := range []string{
		"00", "01", "000", "0999", "1000000000000000000", "1234567890123456789", "0123456789012345678", "000000000000000000",
		"1a", "0x1", "1_0", "1_", "0_", "1e9", "9Z", "0a", "12345678901234567a", "123456789012345678a", strings.Repeat("9", 100),
	} {
		wantFault(t, text, impl.ErrSyntax, 0)
		wantFault(t, "a\n\t"+text+" &", impl.ErrSyntax, 3)
	}
	wantFault(t, "1.5", impl.ErrSyntax, 1)
}

func TestSignsAreTakenAsLongAsCanBe(t *testing.T) {
	for _, sign := range allSigns {
		want := []impl.Token{op(sign, 0)}
		if slices.Contains([]string{"++", "--", ")", "}"}, sign) {
			want = append(want, added(len(sign)))
		}
		wantTokens(t, sign, want...)
		wantTokens(t, sign+" a", op(sign, 0), name("a", len(sign)+1), added(len(sign)+2))
		wantTokens(t, sign+"a", op(sign, 0), name("a", len(sign)), added(len(sign)+1))
	}
	cuts := []string{
		"== =", ":= =", "!= =", "<= =", ">= =", "<- -", "++ +", "-- -",
		"++ ++", "-- --", "<- --", "< <", "< <-", "< <=", "> >", "> >=", "<= >", "! !", "! !=", "+ -", "- +", "+ =", "- =", "* =", "* *", "* /", "/ *",
		"% =", "= !", "= -", "= <-", ": :", ": :=", "&& &&", "|| ||", "&& ||", "&& !", "( (", ") )", "} }", "<- <-", ", ,", "<- =",
	}
	for _, cut := range cuts {
		var want []impl.Token
		at := 0
		for _, sign := range strings.Fields(cut) {
			want = append(want, op(sign, at))
			at += len(sign)
		}
		want = append(want, name("a", at), added(at+1))
		wantTokens(t, strings.ReplaceAll(cut, " ", "")+"a", want...)
	}
	wantTokens(t, "a/ /b", name("a", 0), op("/", 1), op("/", 3), name("b", 4), added(5))
	wantTokens(t, "a///b", name("a", 0), added(5))
	wantTokens(t, "a/\n/b", name("a", 0), op("/", 1), op("/", 3), name("b", 4), added(5))
}

func TestBytesThatBeginNoToken(t *testing.T) {
	begins := "abcdefghijklmnopqrstuvwxyzABCDEFGHIJKLMNOPQRSTUVWXYZ_0123456789 \t\r\n:=!<>+-*/%(){},;"
	for b := range 256 {
		alone := string([]byte{byte(b)})
		if strings.Contains(begins, alone) {
			if _, code, at := impl.Tokens(alone); code != impl.OK || at != 0 {
				t.Errorf("Tokens(%q) has code %d at %d", alone, code, at)
			}
			continue
		}
		wantFault(t, alone, impl.ErrSyntax, 0)
		wantFault(t, "f( "+alone+" )", impl.ErrSyntax, 3)
		wantFault(t, "ab"+alone, impl.ErrSyntax, 2)
		wantFault(t, "12"+alone, impl.ErrSyntax, 2)
		wantTokens(t, "a//"+alone+"\nb", name("a", 0), added(4), name("b", 5), added(6))
	}
	wantFault(t, "&|", impl.ErrSyntax, 0)
	wantFault(t, "& &", impl.ErrSyntax, 0)
	wantFault(t, "&&&", impl.ErrSyntax, 2)
	wantFault(t, "|||", impl.ErrSyntax, 2)
	wantFault(t, "a | b", impl.ErrSyntax, 2)
	wantFault(t, "a\x00", impl.ErrSyntax, 1)
	wantFault(t, "a // b\n  \x0b", impl.ErrSyntax, 9)
}

func TestTheFirstFaultAlongTheTextIsTold(t *testing.T) {
	long := strings.Repeat("w", impl.MaxName+1)
	wantFault(t, "a 01 "+long+" &", impl.ErrSyntax, 2)
	wantFault(t, "a "+long+" 01 &", impl.ErrSyntax, 2)
	wantFault(t, "a & "+long+" 01", impl.ErrSyntax, 2)
}

func TestWordsThatAreTaken(t *testing.T) {
	ends := []string{"return", "break", "continue", "true", "false", "int", "bool"}
	for _, word := range takenWords {
		want := []impl.Token{key(word, 0)}
		if slices.Contains(ends, word) {
			want = append(want, added(len(word)))
		}
		wantTokens(t, word, want...)
		wantTokens(t, word+"\n", want...)
		wantTokens(t, word+" (", key(word, 0), op("(", len(word)+1))
		for _, other := range []string{word + "1", word + "_", "_" + word, strings.ToUpper(word), word + word} {
			wantTokens(t, other, name(other, 0), added(len(other)))
		}
	}
}

func TestWhereASemicolonIsAdded(t *testing.T) {
	wantTokens(t, "a", name("a", 0), added(1))
	wantTokens(t, "a\n", name("a", 0), added(1))
	wantTokens(t, "a \t\r\n", name("a", 0), added(4))
	wantTokens(t, "a \t\r", name("a", 0), added(4))
	wantTokens(t, "a\n\n \n//\n", name("a", 0), added(1))
	wantTokens(t, "a // b\nc // d", name("a", 0), added(6), name("c", 7), added(13))
	wantTokens(t, "a // b // c\n// d\n\n( // e\n)", name("a", 0), added(11), op("(", 18), op(")", 25), added(26))
	wantTokens(t, "\n\n7\r\n", number("7", 2), added(4))
	wantTokens(t, "(\na\n)\n", op("(", 0), name("a", 2), added(3), op(")", 4), added(5))
	wantTokens(t, "a b\nc", name("a", 0), name("b", 2), added(3), name("c", 4), added(5))
	wantTokens(t, "}}\n}", op("}", 0), op("}", 1), added(2), op("}", 3), added(4))
}

func TestSemicolonsThatAreWritten(t *testing.T) {
	wantTokens(t, ";", semi(0))
	wantTokens(t, "a;", name("a", 0), semi(1))
	wantTokens(t, "a;\n\n", name("a", 0), semi(1))
	wantTokens(t, "a ; // b\n;;\n", name("a", 0), semi(2), semi(9), semi(10))
	wantTokens(t, "a\n;", name("a", 0), added(1), semi(2))
	wantTokens(t, ";a", semi(0), name("a", 1), added(2))
	wantTokens(t, "return;return", key("return", 0), semi(6), key("return", 7), added(13))
}

func TestMostTokens(t *testing.T) {
	most := strings.Repeat("(", impl.MaxTokens)
	less := most[1:]
	wantCount(t, most, impl.MaxTokens)
	wantCount(t, most+"\n\n // &\n ", impl.MaxTokens)
	wantCount(t, less+";", impl.MaxTokens)
	wantCount(t, less[1:]+"x", impl.MaxTokens)
	wantFault(t, most+"(", impl.ErrMany, impl.MaxTokens)
	wantFault(t, most+"  (\n", impl.ErrMany, impl.MaxTokens+2)
	wantFault(t, most+"((((", impl.ErrMany, impl.MaxTokens)
	wantFault(t, most+"\nx", impl.ErrMany, impl.MaxTokens+1)
	wantFault(t, most+";", impl.ErrMany, impl.MaxTokens)
	wantFault(t, strings.Repeat("a\n", impl.MaxTokens/2)+"a", impl.ErrMany, impl.MaxTokens)
	wantCount(t, strings.Repeat("a\n", impl.MaxTokens/2), impl.MaxTokens)
}

func TestASemicolonThatIsAddedMayBeOneTooMany(t *testing.T) {
	full := strings.Repeat("(", impl.MaxTokens-1) + "x"
	wantFault(t, full, impl.ErrMany, impl.MaxTokens)
	wantFault(t, full+" \t", impl.ErrMany, impl.MaxTokens+2)
	wantFault(t, full+" // &", impl.ErrMany, impl.MaxTokens+5)
	wantFault(t, full+" \n\n", impl.ErrMany, impl.MaxTokens+1)
	wantFault(t, full+"\n&", impl.ErrMany, impl.MaxTokens)
	wantFault(t, full+" &\n", impl.ErrSyntax, impl.MaxTokens+1)
	wantCount(t, full[1:]+"\n", impl.MaxTokens)
}

func TestWhichOfTwoFaultsIsTold(t *testing.T) {
	most := strings.Repeat("(", impl.MaxTokens)
	long := strings.Repeat("w", impl.MaxName+1)
	for _, fault := range []string{"&", "01", "1a", "\xc3\xa9", long} {
		wantFault(t, most+fault, impl.ErrSyntax, impl.MaxTokens)
		wantFault(t, most+" "+fault+"(", impl.ErrSyntax, impl.MaxTokens+1)
		wantFault(t, most+"("+fault, impl.ErrMany, impl.MaxTokens)
		wantFault(t, most+" ( "+fault, impl.ErrMany, impl.MaxTokens+1)
		wantFault(t, fault+"\n"+most+"(", impl.ErrSyntax, 0)
	}
}
