package impl

const (
	MaxText = 65536
	MaxList = 4096
	MaxName = 40

	OK        = 0
	ErrBad    = 1
	ErrLong   = 2
	ErrForm   = 3
	ErrSyntax = 4
	ErrName   = 5
	ErrTwice  = 6
	ErrType   = 7
	ErrCount  = 8
	ErrResult = 9
	ErrPlace  = 10
	ErrRange  = 11
	ErrNone   = 12
	ErrMany   = 13
	ErrDeep   = 14
)

// A code is the place of its word.
var codeWords = [...]string{
	"ok", "bad", "long", "form", "syntax", "name", "twice", "type",
	"count", "result", "place", "range", "none", "many", "deep",
}

var takenWords = [...]string{
	"func", "if", "else", "for", "return", "go", "defer", "select", "case", "default", "break",
	"continue", "chan", "int", "bool", "true", "false", "make", "close", "print", "panic",
}

func NameOK(t string) bool {
	if t == "" || len(t) > MaxName || !isLetter(t[0]) {
		return false
	}
	return wordLength(t) == len(t) && !isTaken(t)
}

func CodeWord(code int) string {
	if code < 0 || code >= len(codeWords) {
		return ""
	}
	return codeWords[code]
}

func CodeOf(word string) int {
	for code, w := range codeWords {
		if w == word {
			return code
		}
	}
	return -1
}

func isTaken(word string) bool {
	for _, w := range takenWords {
		if w == word {
			return true
		}
	}
	return false
}

func isLetter(b byte) bool {
	return 'a' <= b && b <= 'z' || 'A' <= b && b <= 'Z' || b == '_'
}

func isDigit(b byte) bool {
	return '0' <= b && b <= '9'
}

func wordLength(t string) int {
	n := 0
	for n < len(t) && (isLetter(t[n]) || isDigit(t[n])) {
		n++
	}
	return n
}
