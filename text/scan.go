package text

import (
	"strconv"
	"strings"

	"hornbook/api"
)

const (
	symbols     = "+-*/\\^<>=~:.?@#&$"
	solos       = "!;"
	punctuation = "()[]{},|"
	hexDigits   = "0123456789abcdef"
)

// scan panics with givenUp where there is no token.
func scan(s string) []api.Token {
	var tokens []api.Token
	behind := 0
	for at := layoutEnd(s, 0); at < len(s); at = layoutEnd(s, behind) {
		t := tokenAt(s, at)
		if t.Kind == api.TokPunct && t.Text == "(" && len(tokens) > 0 && at == behind {
			t.Kind = api.TokOpen
		}
		tokens = append(tokens, t)
		behind = t.To
	}
	return tokens
}

// layoutEnd is at itself, where there is no layout.
func layoutEnd(s string, at int) int {
	for at < len(s) {
		switch rest := s[at:]; {
		case isBlank(rest[0]):
			at++
		case rest[0] == '%':
			at += lineLength(rest)
		case strings.HasPrefix(rest, "/*"):
			end := strings.Index(rest[2:], "*/")
			if end < 0 {
				panic(badToken(at))
			}
			at += 2 + end + 2
		default:
			return at
		}
	}
	return at
}

func lineLength(s string) int {
	if end := strings.IndexByte(s, '\n'); end >= 0 {
		return end
	}
	return len(s)
}

func tokenAt(s string, at int) api.Token {
	if end := atomEnd(s, at); end > at {
		return atomToken(s, at, end)
	}
	switch c := s[at]; {
	case c == '\'':
		return quotedToken(s, at)
	case isCapital(c) || c == '_':
		end := runEnd(s, at, isWordByte)
		return api.Token{Kind: api.TokVar, Text: s[at:end], At: at, To: end}
	case isDigit(c):
		return intToken(s, at)
	case isOneOf(punctuation, c):
		return api.Token{Kind: api.TokPunct, Text: s[at : at+1], At: at, To: at + 1}
	}
	panic(badToken(at))
}

// atomEnd is at itself, where no atom begins.
func atomEnd(s string, at int) int {
	switch c := s[at]; {
	case isSmall(c):
		return runEnd(s, at, isWordByte)
	case isSymbol(c):
		return runEnd(s, at, isSymbol)
	case isOneOf(solos, c):
		return at + 1
	}
	return at
}

func atomToken(s string, at, end int) api.Token {
	t := api.Token{Kind: api.TokAtom, Text: s[at:end], At: at, To: end}
	if len(t.Text) > api.MaxName {
		panic(badToken(at))
	}
	if t.Text == "." && (end == len(s) || isBlank(s[end]) || s[end] == '%') {
		t.Kind = api.TokEnd
	}
	return t
}

func quotedToken(s string, at int) api.Token {
	var name []byte
	for k := at + 1; k < len(s) && len(name) <= api.MaxName; {
		c, size := stoodFor(s[k:])
		if size > 0 {
			name = append(name, c)
			k += size
			continue
		}
		if s[k] != '\'' {
			break
		}
		return api.Token{Kind: api.TokQuoted, Text: string(name), At: at, To: k + 1}
	}
	panic(badToken(at))
}

// stoodFor is the byte that the first bytes between quotes stand for, and how many these are: 0, if they stand for none.
func stoodFor(s string) (c byte, size int) {
	switch {
	case strings.HasPrefix(s, "''"), strings.HasPrefix(s, "\\'"):
		return '\'', 2
	case strings.HasPrefix(s, "\\\\"):
		return '\\', 2
	case strings.HasPrefix(s, "\\n"):
		return '\n', 2
	case strings.HasPrefix(s, "\\t"):
		return '\t', 2
	case strings.HasPrefix(s, "\\x"):
		return hexByte(s[2:])
	case isPrintable(s[0]) && s[0] != '\'' && s[0] != '\\':
		return s[0], 1
	}
	return 0, 0
}

// hexByte is given what stands behind the two bytes that announce it, and counts them in.
func hexByte(s string) (c byte, size int) {
	if len(s) < 2 {
		return 0, 0
	}
	high, low := strings.IndexByte(hexDigits, s[0]), strings.IndexByte(hexDigits, s[1])
	if high < 0 || low < 0 {
		return 0, 0
	}
	return byte(high<<4 | low), 4
}

func intToken(s string, at int) api.Token {
	if strings.HasPrefix(s[at:], "0'") {
		return byteToken(s, at)
	}
	end := runEnd(s, at, isDigit)
	n, err := strconv.ParseUint(s[at:end], 10, 64)
	if err != nil || n > 1<<63 {
		panic(badToken(at))
	}
	return api.Token{Kind: api.TokInt, N: int64(n), At: at, To: end}
}

func byteToken(s string, at int) api.Token {
	if at+2 == len(s) || !isPrintable(s[at+2]) {
		panic(badToken(at))
	}
	return api.Token{Kind: api.TokInt, N: int64(s[at+2]), At: at, To: at + 3}
}

func runEnd(s string, at int, belongs func(c byte) bool) int {
	for at < len(s) && belongs(s[at]) {
		at++
	}
	return at
}

func isOneOf(set string, c byte) bool { return strings.IndexByte(set, c) >= 0 }
func isBlank(c byte) bool             { return c == '\t' || c == '\n' || c == '\r' || c == ' ' }
func isSmall(c byte) bool             { return c >= 'a' && c <= 'z' }
func isCapital(c byte) bool           { return c >= 'A' && c <= 'Z' }
func isDigit(c byte) bool             { return c >= '0' && c <= '9' }
func isWordByte(c byte) bool          { return isSmall(c) || isCapital(c) || isDigit(c) || c == '_' }
func isSymbol(c byte) bool            { return isOneOf(symbols, c) }
func isPrintable(c byte) bool         { return c >= 32 && c <= 126 }
