package impl

const (
	MaxText = 65536
	MaxList = 4096
	MaxName = 12

	OK          = 0
	ErrBad      = 1
	ErrLong     = 2
	ErrForm     = 3
	ErrRange    = 4
	ErrNone     = 5
	ErrMany     = 6
	ErrFull     = 7
	ErrSize     = 8
	ErrKind     = 9
	ErrName     = 10
	ErrConflict = 11
	ErrRetries  = 12
	ErrStale    = 13
	ErrExists   = 14
	ErrDone     = 15
	ErrOrder    = 16
	ErrLag      = 17
	ErrSame     = 18
)

var codeWords = [...]string{
	OK:          "ok",
	ErrBad:      "bad",
	ErrLong:     "long",
	ErrForm:     "form",
	ErrRange:    "range",
	ErrNone:     "none",
	ErrMany:     "many",
	ErrFull:     "full",
	ErrSize:     "size",
	ErrKind:     "kind",
	ErrName:     "name",
	ErrConflict: "conflict",
	ErrRetries:  "retries",
	ErrStale:    "stale",
	ErrExists:   "exists",
	ErrDone:     "done",
	ErrOrder:    "order",
	ErrLag:      "lag",
	ErrSame:     "same",
}

func NameOK(t string) bool {
	if len(t) == 0 || len(t) > MaxName || isDigit(t[0]) {
		return false
	}
	for i := 0; i < len(t); i++ {
		if !isLetter(t[i]) && !isDigit(t[i]) {
			return false
		}
	}
	return true
}

func isLetter(c byte) bool {
	return c >= 'a' && c <= 'z' || c >= 'A' && c <= 'Z' || c == '_'
}

func isDigit(c byte) bool {
	return c >= '0' && c <= '9'
}

func CodeWord(code int) string {
	if code < 0 || code >= len(codeWords) {
		return ""
	}
	return codeWords[code]
}

func CodeOf(word string) int {
	for code := range len(codeWords) {
		if codeWords[code] == word {
			return code
		}
	}
	return -1
}
