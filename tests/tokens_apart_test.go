package tests

import (
	"math/rand"
	"regexp"
	"slices"
	"strings"
	"testing"

	"loop.example/g00135/impl"
)

// tokenForm finds what stands at the beginning of a text: passed over, a line's end, a word, a number, a sign, a semicolon.
var tokenForm = regexp.MustCompile(`^(?:([ \t\r]+|//[^\n]*)|(\n)|([A-Za-z_][A-Za-z_0-9]*)|([0-9][A-Za-z_0-9]*)|(:=|==|!=|<=|>=|&&|\|\||<-|\+\+|--|[-+*/%<>!=(){},:])|(;))`)

var numberForm = regexp.MustCompile(`^(?:0|[1-9][0-9]{0,17})$`)

var endForm = regexp.MustCompile(`^(?:return|break|continue|true|false|int|bool|\+\+|--|\)|\})$`)

// tokensByForm does the work of Tokens by regular expressions, for texts of few tokens.
func tokensByForm(text string) (list []impl.Token, code, place int) {
	end := func(at int) {
		if n := len(list); n > 0 && (list[n-1].Kind == impl.TkName || list[n-1].Kind == impl.TkInt || endForm.MatchString(list[n-1].Text)) {
			list = append(list, added(at))
		}
	}
	for at := 0; at < len(text); {
		part := tokenForm.FindStringSubmatch(text[at:])
		switch {
		case part == nil || len(part[3]) > impl.MaxName || part[4] != "" && !numberForm.MatchString(part[4]):
			return nil, impl.ErrSyntax, at
		case part[2] != "":
			end(at)
		case slices.Contains(takenWords, part[3]):
			list = append(list, key(part[3], at))
		case part[3] != "":
			list = append(list, name(part[3], at))
		case part[4] != "":
			list = append(list, number(part[4], at))
		case part[5] != "":
			list = append(list, op(part[5], at))
		case part[6] != "":
			list = append(list, semi(at))
		}
		at += len(part[0])
	}
	end(len(text))
	return list, impl.OK, 0
}

func sameAsByForm(t *testing.T, text string) {
	t.Helper()
	got, code, at := impl.Tokens(text)
	want, wantCode, wantAt := tokensByForm(text)
	if code != wantCode || at != wantAt || !slices.Equal(got, want) {
		t.Fatalf("Tokens(%q) = %v, %d, %d; not %v, %d, %d", text, got, code, at, want, wantCode, wantAt)
	}
}

func TestAllShortTextsOfSomeBytes(t *testing.T) {
	pieces := []string{"a", "0", "1", " ", "\n", "/", "<", "-", "=", ";", ")", "&", ":", "+", "if", "int"}
	var all func(text string, left int)
	all = func(text string, left int) {
		sameAsByForm(t, text)
		if left == 0 {
			return
		}
		for _, piece := range pieces {
			all(text+piece, left-1)
		}
	}
	all("", 4)
}

func TestTextsOfManyPieces(t *testing.T) {
	pieces := slices.Concat(allSigns, takenWords, []string{
		";", " ", "  ", "\t", "\r", "\n", "\n\n", "// r\n", "//", "x", "_", "Zz9", "0", "7", "10", "999999999999999999", " ", "\n", " ", "\n",
	})
	wrong := []string{"&", "|", "$", "\xff", "\x00", "é", "01", "1x", strings.Repeat("q", impl.MaxName+1), "1234567890123456789"}
	draw := rand.New(rand.NewSource(2))
	for range 20000 {
		var text strings.Builder
		for range draw.Intn(24) {
			if draw.Intn(40) == 0 {
				text.WriteString(wrong[draw.Intn(len(wrong))])
			} else {
				text.WriteString(pieces[draw.Intn(len(pieces))])
			}
		}
		sameAsByForm(t, text.String())
	}
}

func TestTextsOfAnyBytes(t *testing.T) {
	draw := rand.New(rand.NewSource(3))
	for range 20000 {
		text := make([]byte, draw.Intn(12))
		for i := range text {
			text[i] = byte(draw.Intn(256))
		}
		sameAsByForm(t, string(text))
	}
}

// writeApart writes tokens with blanks, remarks and lines between, and sets their places.
func writeApart(list []impl.Token, draw *rand.Rand) (string, []impl.Token) {
	blanks := []string{" ", "\t", "\r", "  ", " \t \r "}
	breaks := []string{"\n", "\n\n", "\n \r\n", "\n// r & é\n", "\n\t//\n\n"}
	var text strings.Builder
	moved := slices.Clone(list)
	for i, token := range list {
		text.WriteString(blanks[draw.Intn(len(blanks))])
		if token.Kind == impl.TkSemi && token.Text == "" {
			if draw.Intn(3) == 0 {
				text.WriteString("// r ; ) $")
			}
			moved[i].At = text.Len()
			text.WriteString(breaks[draw.Intn(len(breaks))])
			continue
		}
		moved[i].At = text.Len()
		text.WriteString(token.Text)
		if draw.Intn(3) == 0 && token.Kind != impl.TkName && token.Kind != impl.TkInt && !endForm.MatchString(token.Text) {
			text.WriteString(" " + breaks[draw.Intn(len(breaks))]) // nothing is added there
		}
	}
	return text.String(), moved
}

func TestTokensWrittenApartAreTheSame(t *testing.T) {
	pieces := slices.Concat(allSigns, takenWords, []string{";", "\n", "\n", "\n", " x ", " y1 ", " 0 ", " 23 ", "//", "_"})
	draw := rand.New(rand.NewSource(4))
	tried := 0
	for range 20000 {
		var text strings.Builder
		for range draw.Intn(30) {
			text.WriteString(pieces[draw.Intn(len(pieces))])
		}
		list, code, _ := impl.Tokens(text.String())
		if code != impl.OK {
			continue
		}
		tried++
		apart, want := writeApart(list, draw)
		got, code, at := impl.Tokens(apart)
		if code != impl.OK || at != 0 || !slices.Equal(got, want) {
			t.Fatalf("Tokens(%q), of %q, = %v, %d, %d; not %v", apart, text.String(), got, code, at, want)
		}
	}
	if tried < 10000 {
		t.Error("of 20000 texts only so many have tokens:", tried)
	}
}

func TestTokensOfAProgramWrittenApart(t *testing.T) {
	text := "func f(a int,c chan int)int{for a<=9{a++;c<- -a}\nselect{case x:=<-c:print(x)\ndefault:}\nreturn a*-1}"
	list, code, _ := impl.Tokens(text)
	if code != impl.OK {
		t.Fatal("Tokens has code", code)
	}
	draw := rand.New(rand.NewSource(5))
	for range 200 {
		apart, want := writeApart(list, draw)
		if wantTokens(t, apart, want...); t.Failed() {
			return
		}
	}
}

func TestTokensStandWhereTheySay(t *testing.T) {
	text := "func f(){\n\tx:=1 // one\n\tif x<=2&&true{print(x)}\n}\n"
	list, code, _ := impl.Tokens(text)
	if code != impl.OK || len(list) == 0 {
		t.Fatal("Tokens has code", code)
	}
	last := -1
	for _, token := range list {
		if token.At <= last || !strings.HasPrefix(text[token.At:], token.Text) {
			t.Errorf("%v does not stand there", token)
		}
		if token.Text == "" && text[token.At] != '\n' {
			t.Errorf("%v is added where no line ends", token)
		}
		last = token.At
	}
}
