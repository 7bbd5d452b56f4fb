package impl

import (
	"iter"
	"strings"
)

const (
	MaxTokens = 4000

	TkName = 1
	TkInt  = 2
	TkKey  = 3
	TkOp   = 4
	TkSemi = 5
)

const maxDigits = 18

type Token struct {
	Kind int
	Text string
	At   int
}

// The longer signs stand ahead, so that the first that fits is the longest.
var signs = [...]string{
	":=", "==", "!=", "<=", ">=", "&&", "||", "<-", "++", "--",
	"+", "-", "*", "/", "%", "<", ">", "!", "=", "(", ")", "{", "}", ",", ":",
}

func Tokens(t string) ([]Token, int, int) {
	if len(t) > MaxText {
		return nil, ErrLong, 0
	}
	var list []Token
	for token, code := range tokensAlong(t) {
		if code != OK {
			return nil, code, token.At
		}
		// Behind the test for a fault, as what is no token is none too many.
		if len(list) == MaxTokens {
			return nil, ErrMany, token.At
		}
		list = append(list, token)
	}
	return list, OK, 0
}

// A fault is yielded like a token, as the last one: whoever ranges over them may
// have left ahead of it.
func tokensAlong(t string) iter.Seq2[Token, int] {
	return func(yield func(Token, int) bool) {
		last := Token{}
		at := 0
		// The end of the text ends a line too, so its place is gone through like a byte's.
	along:
		for at <= len(t) {
			next, code := Token{Kind: TkSemi, At: at}, OK
			switch {
			case at == len(t) || t[at] == '\n':
				if !endsStatement(last) {
					at++
					continue along
				}
			case isBlank(t[at]):
				at++
				continue along
			case strings.HasPrefix(t[at:], "//"):
				at = lineEnd(t, at)
				continue along
			default:
				next, code = tokenAt(t, at)
			}
			if !yield(next, code) || code != OK {
				break along
			}
			last = next
			// A semicolon that is added has no Text, but stands for one byte.
			at += max(1, len(next.Text))
		}
	}
}

func isBlank(b byte) bool {
	return b == ' ' || b == '\t' || b == '\r'
}

func lineEnd(t string, at int) int {
	n := strings.IndexByte(t[at:], '\n')
	if n < 0 {
		return len(t)
	}
	return at + n
}

func endsStatement(last Token) bool {
	switch last.Kind {
	case TkName, TkInt:
		return true
	case TkKey:
		switch last.Text {
		case "return", "break", "continue", "true", "false", "int", "bool":
			return true
		}
	case TkOp:
		switch last.Text {
		case "++", "--", ")", "}":
			return true
		}
	}
	return false
}

// tokenAt takes an empty text for a fault, as no token that is written has one.
func tokenAt(t string, at int) (Token, int) {
	kind, text := TkOp, ""
	switch {
	case isLetter(t[at]):
		kind, text = wordOf(t[at:])
	case isDigit(t[at]):
		kind, text = TkInt, numberOf(t[at:])
	case t[at] == ';':
		kind, text = TkSemi, ";"
	default:
		text = signOf(t[at:])
	}
	if text == "" {
		return Token{At: at}, ErrSyntax
	}
	// Cloned, as an answer shares no memory with an argument.
	return Token{Kind: kind, Text: strings.Clone(text), At: at}, OK
}

func wordOf(t string) (int, string) {
	word := t[:wordLength(t)]
	if len(word) > MaxName {
		return TkName, ""
	}
	if isTaken(word) {
		return TkKey, word
	}
	return TkName, word
}

func numberOf(t string) string {
	word := t[:wordLength(t)]
	if len(word) > maxDigits || len(word) > 1 && word[0] == '0' {
		return ""
	}
	for i := range len(word) {
		if !isDigit(word[i]) {
			return ""
		}
	}
	return word
}

func signOf(t string) string {
	for _, sign := range signs {
		if strings.HasPrefix(t, sign) {
			return sign
		}
	}
	return ""
}
