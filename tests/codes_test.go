package tests

import (
	"math"
	"strings"
	"testing"

	"loop.example/g00135/impl"
)

// takenWords are those of chapter 1, written down apart from the program's.
var takenWords = strings.Fields("func if else for return go defer select case default break continue chan int bool true false make close print panic")

func TestCodesHaveTheirNumbersAndWords(t *testing.T) {
	table := []struct {
		code, number int
		word         string
	}{
		{impl.OK, 0, "ok"}, {impl.ErrBad, 1, "bad"}, {impl.ErrLong, 2, "long"}, {impl.ErrForm, 3, "form"},
		{impl.ErrSyntax, 4, "syntax"}, {impl.ErrName, 5, "name"}, {impl.ErrTwice, 6, "twice"}, {impl.ErrType, 7, "type"},
		{impl.ErrCount, 8, "count"}, {impl.ErrResult, 9, "result"}, {impl.ErrPlace, 10, "place"}, {impl.ErrRange, 11, "range"},
		{impl.ErrNone, 12, "none"}, {impl.ErrMany, 13, "many"}, {impl.ErrDeep, 14, "deep"},
	}
	for _, row := range table {
		if row.code != row.number {
			t.Errorf("the code of %q is %d, not %d", row.word, row.code, row.number)
		}
		if got := impl.CodeWord(row.number); got != row.word {
			t.Errorf("CodeWord(%d) = %q, not %q", row.number, got, row.word)
		}
		if got := impl.CodeOf(row.word); got != row.number {
			t.Errorf("CodeOf(%q) = %d, not %d", row.word, got, row.number)
		}
	}
}

func TestConstantsHaveTheirValues(t *testing.T) {
	for _, row := range [][2]int{
		{impl.MaxText, 65536}, {impl.MaxList, 4096}, {impl.MaxName, 40}, {impl.MaxTokens, 4000},
		{impl.TkName, 1}, {impl.TkInt, 2}, {impl.TkKey, 3}, {impl.TkOp, 4}, {impl.TkSemi, 5},
	} {
		if row[0] != row[1] {
			t.Errorf("a constant is %d, not %d", row[0], row[1])
		}
	}
}

func TestNumbersOfNoCodeHaveNoWord(t *testing.T) {
	for _, code := range []int{-1, -2, -14, 15, 16, 255, 256, 1 << 32, -(1 << 32), math.MaxInt, math.MinInt} {
		if got := impl.CodeWord(code); got != "" {
			t.Errorf("CodeWord(%d) = %q", code, got)
		}
	}
}

func TestTextsOfNoCode(t *testing.T) {
	long := strings.Repeat("ok", impl.MaxText)
	for _, word := range []string{"", " ", "OK", "Ok", "ok ", " ok", "o", "okk", "okbad", "ok bad", "0", "14", "-1", "deepe", "dee", "ok\x00", "\xff", long} {
		if got := impl.CodeOf(word); got != -1 {
			t.Errorf("CodeOf(%.20q) = %d, not -1", word, got)
		}
	}
}

func TestNames(t *testing.T) {
	full := strings.Repeat("n", impl.MaxName)
	for _, name := range []string{
		"a", "z", "A", "Z", "_", "__", "a0", "z9", "_1", "aZ_09", "iff", "If", "IF", "i", "func1", "_func", "chan_", "integer",
		"nil", "string", "var", "range", "make1", "Test", full, "_" + full[1:], full[:impl.MaxName-1] + "9",
	} {
		if !impl.NameOK(name) {
			t.Errorf("NameOK(%q) is false", name)
		}
	}
	for _, name := range []string{
		"", "0", "9a", "1_", "a b", " a", "a ", "a-b", "a.b", "a\n", "\na", "a\x00", "-", "+", "é", "aé", "\xff", "a\x80", "@", "`", "[", "{", "a@", "a`", "a[", "a{", "a/", "a:",
		full + "n", full + "9", strings.Repeat("n", impl.MaxText), strings.Repeat("n", impl.MaxText+1),
	} {
		if impl.NameOK(name) {
			t.Errorf("NameOK(%.50q) is true", name)
		}
	}
}

func TestWordsThatAreTakenAreNoNames(t *testing.T) {
	if len(takenWords) != 21 {
		t.Fatal("the words that are taken are 21, not", len(takenWords))
	}
	for _, word := range takenWords {
		if impl.NameOK(word) {
			t.Errorf("NameOK(%q) is true", word)
		}
		for _, name := range []string{word + "_", "_" + word, word + "0", strings.ToUpper(word), strings.ToUpper(word[:1]) + word[1:], word + word, word[:1]} {
			if !impl.NameOK(name) {
				t.Errorf("NameOK(%q) is false", name)
			}
		}
	}
}

func TestNamesOfEachByte(t *testing.T) {
	letters := "abcdefghijklmnopqrstuvwxyzABCDEFGHIJKLMNOPQRSTUVWXYZ_"
	for b := range 256 {
		alone := string([]byte{byte(b)})
		if got, want := impl.NameOK(alone), strings.Contains(letters, alone); got != want {
			t.Errorf("NameOK(%q) = %v", alone, got)
		}
		if got, want := impl.NameOK("x"+alone), strings.Contains(letters+"0123456789", alone); got != want {
			t.Errorf("NameOK(%q) = %v", "x"+alone, got)
		}
	}
}
