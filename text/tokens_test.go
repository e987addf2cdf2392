package text_test

import (
	"regexp"
	"slices"
	"strconv"
	"strings"
	"testing"

	"hornbook/api"
	"hornbook/text"
)

func tok(kind int, s string, at, to int) api.Token {
	return api.Token{Kind: kind, Text: s, At: at, To: to}
}

func num(n int64, at, to int) api.Token {
	return api.Token{Kind: api.TokInt, N: n, At: at, To: to}
}

func TestTokens(t *testing.T) {
	const atom, quoted, variable, punct, open, end = api.TokAtom, api.TokQuoted, api.TokVar, api.TokPunct, api.TokOpen, api.TokEnd
	for _, l := range []struct {
		s    string
		want []api.Token
	}{
		{"", nil}, {" \t\r\n", nil}, {"%", nil}, {"% a'b", nil}, {"/**/", nil}, {"/***/", nil}, {"/* a' \" \xff\n% */", nil}, {"%a\n%b\n", nil}, {"/*/*/", nil},
		{"aZ0_z", []api.Token{tok(atom, "aZ0_z", 0, 5)}}, {" z ", []api.Token{tok(atom, "z", 1, 2)}},
		{"a\rb\tc\nd e", []api.Token{tok(atom, "a", 0, 1), tok(atom, "b", 2, 3), tok(atom, "c", 4, 5), tok(atom, "d", 6, 7), tok(atom, "e", 8, 9)}},
		{`+-*/\^<>=~:.?@#&$`, []api.Token{tok(atom, `+-*/\^<>=~:.?@#&$`, 0, 17)}},
		{"a+b", []api.Token{tok(atom, "a", 0, 1), tok(atom, "+", 1, 2), tok(atom, "b", 2, 3)}},
		{"!!;;!", []api.Token{tok(atom, "!", 0, 1), tok(atom, "!", 1, 2), tok(atom, ";", 2, 3), tok(atom, ";", 3, 4), tok(atom, "!", 4, 5)}},
		{"!=", []api.Token{tok(atom, "!", 0, 1), tok(atom, "=", 1, 2)}},
		// A comment is layout, but only where a token may begin.
		{"a/*b*/c", []api.Token{tok(atom, "a", 0, 1), tok(atom, "c", 6, 7)}}, {"+/* */", []api.Token{tok(atom, "+/*", 0, 3), tok(atom, "*/", 4, 6)}},
		{"a%b\nc%", []api.Token{tok(atom, "a", 0, 1), tok(atom, "c", 4, 5)}}, {"a%b\rc\nd", []api.Token{tok(atom, "a", 0, 1), tok(atom, "d", 6, 7)}},
		{"+%b", []api.Token{tok(atom, "+", 0, 1)}}, {"/*a*/ /*b*/%c\n d", []api.Token{tok(atom, "d", 15, 16)}}, {"/ *", []api.Token{tok(atom, "/", 0, 1), tok(atom, "*", 2, 3)}},
		{"/*/ a */ b", []api.Token{tok(atom, "b", 9, 10)}}, {"/**/*/", []api.Token{tok(atom, "*/", 4, 6)}},
		// Ends.
		{".", []api.Token{tok(end, ".", 0, 1)}}, {". .\t.\n.\r.%", []api.Token{tok(end, ".", 0, 1), tok(end, ".", 2, 3), tok(end, ".", 4, 5), tok(end, ".", 6, 7), tok(end, ".", 8, 9)}},
		{"a.b", []api.Token{tok(atom, "a", 0, 1), tok(atom, ".", 1, 2), tok(atom, "b", 2, 3)}}, {"a..", []api.Token{tok(atom, "a", 0, 1), tok(atom, "..", 1, 3)}},
		{"a.. ", []api.Token{tok(atom, "a", 0, 1), tok(atom, "..", 1, 3)}}, {"a+.", []api.Token{tok(atom, "a", 0, 1), tok(atom, "+.", 1, 3)}},
		{"1.", []api.Token{num(1, 0, 1), tok(end, ".", 1, 2)}}, {"1.2", []api.Token{num(1, 0, 1), tok(atom, ".", 1, 2), num(2, 2, 3)}},
		{"./**/", []api.Token{tok(atom, "./**/", 0, 5)}}, {".(", []api.Token{tok(atom, ".", 0, 1), tok(open, "(", 1, 2)}}, {".)", []api.Token{tok(atom, ".", 0, 1), tok(punct, ")", 1, 2)}},
		{"'.' .", []api.Token{tok(quoted, ".", 0, 3), tok(end, ".", 4, 5)}},
		// Quoted atoms.
		{"''", []api.Token{tok(quoted, "", 0, 2)}}, {"' '' '", []api.Token{tok(quoted, " ' ", 0, 6)}}, {"''''", []api.Token{tok(quoted, "'", 0, 4)}}, {`'\''`, []api.Token{tok(quoted, "'", 0, 4)}},
		{`'\\\n\t\x00\x0a\x9f\xff\xa0'`, []api.Token{tok(quoted, "\\\n\t\x00\x0a\x9f\xff\xa0", 0, 28)}}, {`'~ "(%/*'`, []api.Token{tok(quoted, `~ "(%/*`, 0, 9)}},
		{"'a' 'b'", []api.Token{tok(quoted, "a", 0, 3), tok(quoted, "b", 4, 7)}}, {"'a''b'c", []api.Token{tok(quoted, "a'b", 0, 6), tok(atom, "c", 6, 7)}}, {`'\x414'`, []api.Token{tok(quoted, "A4", 0, 7)}},
		{"a'b'", []api.Token{tok(atom, "a", 0, 1), tok(quoted, "b", 1, 4)}}, {"'[]'", []api.Token{tok(quoted, "[]", 0, 4)}},
		// Variables.
		{"_", []api.Token{tok(variable, "_", 0, 1)}}, {"__a1", []api.Token{tok(variable, "__a1", 0, 4)}}, {"A Zb_9", []api.Token{tok(variable, "A", 0, 1), tok(variable, "Zb_9", 2, 6)}}, {"_0'a'", []api.Token{tok(variable, "_0", 0, 2), tok(quoted, "a", 2, 5)}},
		// Integers.
		{"0", []api.Token{num(0, 0, 1)}}, {"007", []api.Token{num(7, 0, 3)}}, {"9223372036854775807", []api.Token{num(1<<63-1, 0, 19)}}, {"9223372036854775808", []api.Token{num(-1<<63, 0, 19)}},
		{"00000000000000000000000009223372036854775808", []api.Token{num(-1<<63, 0, 44)}}, {"-1", []api.Token{tok(atom, "-", 0, 1), num(1, 1, 2)}},
		{"1a", []api.Token{num(1, 0, 1), tok(atom, "a", 1, 2)}}, {"12X", []api.Token{num(12, 0, 2), tok(variable, "X", 2, 3)}}, {"1_0", []api.Token{num(1, 0, 1), tok(variable, "_0", 1, 3)}},
		{"0'a", []api.Token{num(97, 0, 3)}}, {"0' ", []api.Token{num(32, 0, 3)}}, {"0'~0'!", []api.Token{num(126, 0, 3), num(33, 3, 6)}}, {"0''", []api.Token{num(39, 0, 3)}}, {"0''a", []api.Token{num(39, 0, 3), tok(atom, "a", 3, 4)}},
		{`0'\n`, []api.Token{num(92, 0, 3), tok(atom, "n", 3, 4)}}, {"0'%a", []api.Token{num(37, 0, 3), tok(atom, "a", 3, 4)}}, {"00'a'", []api.Token{num(0, 0, 2), tok(quoted, "a", 2, 5)}}, {"10'a'", []api.Token{num(10, 0, 2), tok(quoted, "a", 2, 5)}},
		{"0'1'2'", []api.Token{num(49, 0, 3), tok(quoted, "2", 3, 6)}}, {"0x1f", []api.Token{num(0, 0, 1), tok(atom, "x1f", 1, 4)}},
		// Brackets.
		{"(", []api.Token{tok(punct, "(", 0, 1)}}, {" (", []api.Token{tok(punct, "(", 1, 2)}}, {"((", []api.Token{tok(punct, "(", 0, 1), tok(open, "(", 1, 2)}}, {"a(", []api.Token{tok(atom, "a", 0, 1), tok(open, "(", 1, 2)}},
		{"a (", []api.Token{tok(atom, "a", 0, 1), tok(punct, "(", 2, 3)}}, {"a/**/(", []api.Token{tok(atom, "a", 0, 1), tok(punct, "(", 5, 6)}}, {"a%\n(", []api.Token{tok(atom, "a", 0, 1), tok(punct, "(", 3, 4)}},
		{"'a'(", []api.Token{tok(quoted, "a", 0, 3), tok(open, "(", 3, 4)}}, {"X(", []api.Token{tok(variable, "X", 0, 1), tok(open, "(", 1, 2)}}, {"1(", []api.Token{num(1, 0, 1), tok(open, "(", 1, 2)}},
		{")(,(|(", []api.Token{tok(punct, ")", 0, 1), tok(open, "(", 1, 2), tok(punct, ",", 2, 3), tok(open, "(", 3, 4), tok(punct, "|", 4, 5), tok(open, "(", 5, 6)}}, {". (", []api.Token{tok(end, ".", 0, 1), tok(punct, "(", 2, 3)}},
		{"a[{", []api.Token{tok(atom, "a", 0, 1), tok(punct, "[", 1, 2), tok(punct, "{", 2, 3)}}, {"[]{}|", []api.Token{tok(punct, "[", 0, 1), tok(punct, "]", 1, 2), tok(punct, "{", 2, 3), tok(punct, "}", 3, 4), tok(punct, "|", 4, 5)}},
		{"||", []api.Token{tok(punct, "|", 0, 1), tok(punct, "|", 1, 2)}},
	} {
		if got, f := text.Tokens(l.s); f != (api.Fault{}) || !slices.Equal(got, l.want) {
			t.Errorf("%q: %v, %s, not %v", l.s, got, showFault(f), l.want)
		}
	}
}

func TestTokenFaults(t *testing.T) {
	for _, l := range []struct {
		s  string
		at int
	}{
		{"\"", 0}, {"a \"b\"", 2}, {"`", 0}, {"a\x00", 1}, {"\x7f", 0}, {"\xc3\xa9", 0}, {"a\xc3\xa9", 1}, {" \x0b", 1}, {"\x0c", 0}, {"\xa0", 0}, {"A\x80", 1},
		{"/*", 0}, {"a /* * /", 2}, {"/*/", 0}, {"/**", 0}, {"a%\n /*", 4}, {"/**/ /*/**", 5},
		{"'", 0}, {"a'", 1}, {"'a", 0}, {"'a\n'", 0}, {"'a\t'", 0}, {"'\x7f'", 0}, {"'\x1f'", 0}, {"'\xc3\xa9'", 0}, {"'a''", 0}, {"'''", 0}, {"x 'a''b", 2},
		{`'\`, 0}, {`'\'`, 0}, {`'\a'`, 0}, {`'\r'`, 0}, {`'\"'`, 0}, {`'\0'`, 0}, {"'\\\n'", 0}, {`'\x'`, 0}, {`'\x1'`, 0}, {`'\x`, 0}, {`'\x1`, 0}, {`'\x00`, 0}, {`'\xAB'`, 0}, {`'\xg0'`, 0}, {`'\x0g'`, 0}, {`'\X00'`, 0}, {`'\N'`, 0},
		{"9223372036854775809", 0}, {"a 18446744073709551616", 2}, {"-9223372036854775809", 1}, {"18446744073709551615", 0}, {"99999999999999999999999999", 0},
		{"0'", 0}, {"a 0'", 2}, {"0'\n", 0}, {"0'\t", 0}, {"0'\x7f", 0}, {"0'\x80", 0}, {"0'\xc3\xa9", 0}, {"0'''", 3}, {"00'a", 2},
		{"a b ` \"", 4}, {"'\\i' \"", 0}, {". ' .", 2},
	} {
		if got, f := text.Tokens(l.s); f != fault(api.ErrToken, l.at) || len(got) != 0 {
			t.Errorf("%q: %v, %s, not at %d", l.s, got, showFault(f), l.at)
		}
	}
}

// TestTokenLengths: an atom has at most MaxName bytes, and a quoted one stands for as many; a variable may be as long as it is.
func TestTokenLengths(t *testing.T) {
	for _, unit := range []string{"a", "+", "."} {
		for _, n := range []int{api.MaxName - 1, api.MaxName, api.MaxName + 1, 3 * api.MaxName} {
			s := strings.Repeat(unit, n)
			got, f := text.Tokens("x " + s + " y")
			if n > api.MaxName && (f != fault(api.ErrToken, 2) || len(got) != 0) {
				t.Errorf("%d of %q: %v, %s", n, unit, got, showFault(f))
			}
			if n <= api.MaxName && (f != (api.Fault{}) || len(got) != 3 || got[1] != tok(api.TokAtom, s, 2, 2+n)) {
				t.Errorf("%d of %q: %v, %s", n, unit, got, showFault(f))
			}
		}
	}
	for _, l := range []struct{ unit, name string }{{"a", "a"}, {"''", "'"}, {`\'`, "'"}, {`\x41`, "A"}, {`\xff`, "\xff"}, {`\n`, "\n"}, {" ", " "}} {
		for _, n := range []int{api.MaxName - 1, api.MaxName, api.MaxName + 1, 3 * api.MaxName} {
			s := "'" + strings.Repeat(l.unit, n) + "'"
			got, f := text.Tokens("x " + s + " y")
			if n > api.MaxName && (f != fault(api.ErrToken, 2) || len(got) != 0) {
				t.Errorf("%d of %q: %v, %s", n, l.unit, got, showFault(f))
			}
			if n <= api.MaxName && (f != (api.Fault{}) || len(got) != 3 || got[1] != tok(api.TokQuoted, strings.Repeat(l.name, n), 2, 2+len(s))) {
				t.Errorf("%d of %q: %v, %s", n, l.unit, got, showFault(f))
			}
		}
	}
	s := strings.Repeat("V", 1000)
	if got, f := text.Tokens(s); f != (api.Fault{}) || !slices.Equal(got, []api.Token{tok(api.TokVar, s, 0, 1000)}) {
		t.Error(len(got), showFault(f))
	}
	s = strings.Repeat("0", 100000)
	if got, f := text.Tokens(s + "9223372036854775807"); f != (api.Fault{}) || !slices.Equal(got, []api.Token{num(1<<63-1, 0, 100019)}) {
		t.Error(len(got), showFault(f))
	}
}

// TestEachByte: what each byte is by itself.
func TestEachByte(t *testing.T) {
	for b := range 256 {
		s := string([]byte{byte(b)})
		var want []api.Token
		bad := false
		switch {
		case strings.Contains("\t\n\r %", s):
		case s == ".":
			want = []api.Token{tok(api.TokEnd, s, 0, 1)}
		case s >= "a" && s <= "z" || strings.Contains(`+-*/\^<>=~:?@#&$!;`, s):
			want = []api.Token{tok(api.TokAtom, s, 0, 1)}
		case s >= "A" && s <= "Z" || s == "_":
			want = []api.Token{tok(api.TokVar, s, 0, 1)}
		case s >= "0" && s <= "9":
			want = []api.Token{num(int64(b-'0'), 0, 1)}
		case strings.Contains("()[]{},|", s):
			want = []api.Token{tok(api.TokPunct, s, 0, 1)}
		default:
			bad = true
		}
		got, f := text.Tokens(s)
		if bad != (f == fault(api.ErrToken, 0)) || !bad && f != (api.Fault{}) || !slices.Equal(got, want) {
			t.Errorf("byte %d: %v, %s, not %v", b, got, showFault(f), want)
		}
		// The same byte between quotes, in a name, and behind 0'.
		got, f = text.Tokens("'" + s + "'")
		if stands := b >= 32 && b <= 126 && b != '\'' && b != '\\'; stands != (f == (api.Fault{})) || stands && (len(got) != 1 || got[0].Text != s) {
			t.Errorf("byte %d between quotes: %v, %s", b, got, showFault(f))
		}
		got, f = text.Tokens("0'" + s)
		if stands := b >= 32 && b <= 126; stands != (f == (api.Fault{})) || stands && !slices.Equal(got, []api.Token{num(int64(b), 0, 3)}) {
			t.Errorf("byte %d behind 0': %v, %s", b, got, showFault(f))
		}
		got, f = text.Tokens("x" + s + "Y")
		if inside := regexp.MustCompile("^[a-zA-Z0-9_]$").MatchString(s); inside != (f == (api.Fault{}) && len(got) == 1 && got[0].To == 3) {
			t.Errorf("byte %d in a name: %v, %s", b, got, showFault(f))
		}
		escaped := "'\\" + s + "'"
		got, f = text.Tokens(escaped)
		if s != "'" && strings.Contains("\\nt", s) != (f == (api.Fault{})) {
			t.Errorf("%q: %v, %s", escaped, got, showFault(f))
		}
	}
}

// TestEachHexByte: all bytes that may be written by two digits.
func TestEachHexByte(t *testing.T) {
	for b := range 256 {
		s := strconv.FormatInt(int64(b)+256, 16)[1:]
		got, f := text.Tokens(`'\x` + s + `'`)
		if f != (api.Fault{}) || !slices.Equal(got, []api.Token{tok(api.TokQuoted, string([]byte{byte(b)}), 0, 6)}) {
			t.Errorf("%s: %v, %s", s, got, showFault(f))
		}
	}
}

// forms are the tokens as patterns: the atoms first, then as the kinds are numbered.
type forms struct {
	layout, atom, quoted, variable, digits, char, punct, end *regexp.Regexp
}

func newForms() forms {
	return forms{
		layout:   regexp.MustCompile(`^(?s:[\t\n\r ]|%[^\n]*|/\*.*?\*/)+`),
		atom:     regexp.MustCompile(`^(?:[a-z][a-zA-Z0-9_]*|[-+*/\\^<>=~:.?@#&$]+|!|;)`),
		quoted:   regexp.MustCompile(`^'(?:[ -&(-\[\]-~]|''|\\['\\nt]|\\x[0-9a-f][0-9a-f])*'`),
		variable: regexp.MustCompile(`^[A-Z_][a-zA-Z0-9_]*`),
		digits:   regexp.MustCompile(`^[0-9]+`),
		char:     regexp.MustCompile(`^0'[ -~]`),
		punct:    regexp.MustCompile(`^[()\[\]{},|]`),
		end:      regexp.MustCompile(`^\.(?:[\t\n\r %]|$)`),
	}
}

// naiveTokens: what Tokens should answer, by patterns.
func (p forms) naiveTokens(s string) ([]api.Token, api.Fault) {
	var list []api.Token
	behind := -1
	for at := 0; at < len(s); {
		rest := s[at:]
		if l := p.layout.FindString(rest); l != "" {
			at += len(l)
			continue
		}
		var t api.Token
		x := ""
		switch {
		case strings.HasPrefix(rest, "/*"):
		case p.end.MatchString(rest):
			x = "."
			t = api.Token{Kind: api.TokEnd, Text: x}
		case p.atom.MatchString(rest):
			x = p.atom.FindString(rest)
			t = api.Token{Kind: api.TokAtom, Text: x}
		case p.quoted.MatchString(rest):
			x = p.quoted.FindString(rest)
			inside := strings.NewReplacer(`''`, "'", `\'`, "'", `\\`, `\`, `\n`, "\n", `\t`, "\t").Replace(x[1 : len(x)-1])
			if strings.HasPrefix(rest[len(x):], "'") || strings.Contains(x, `\x`) {
				return nil, api.Fault{Code: api.ErrArg} // not said by these patterns alone
			}
			t = api.Token{Kind: api.TokQuoted, Text: inside}
		case p.variable.MatchString(rest):
			x = p.variable.FindString(rest)
			t = api.Token{Kind: api.TokVar, Text: x}
		case strings.HasPrefix(rest, "0'"):
			x = p.char.FindString(rest)
			if x != "" {
				t = api.Token{Kind: api.TokInt, N: int64(x[2])}
			}
		case p.digits.MatchString(rest):
			x = p.digits.FindString(rest)
			n, _ := strconv.ParseInt(x, 10, 64)
			t = api.Token{Kind: api.TokInt, N: n}
		case p.punct.MatchString(rest):
			x = rest[:1]
			t = api.Token{Kind: api.TokPunct, Text: x}
			if x == "(" && at == behind {
				t.Kind = api.TokOpen
			}
		}
		if x == "" {
			return nil, fault(api.ErrToken, at)
		}
		t.At, t.To = at, at+len(x)
		list = append(list, t)
		at += len(x)
		behind = at
	}
	return list, api.Fault{}
}

func TestTokensByPatterns(t *testing.T) {
	p := newForms()
	pieces := []string{"a", "bC", "X", "_", "0", "12", "'", "''", "'q'", `\`, "n", "t", "/", "*", "/*", "*/", "%", "\n", " ", "\t", "\r", ".", "-", "+", "(", ")", "[", "]", "{", "}", ",", "|", "!", ";", "\"", "0'", "\x80", "\x00", "é"}
	x := chance(3)
	said := 0
	for range 60000 {
		s := ""
		for range 1 + x.below(9) {
			s += pick(&x, pieces)
		}
		want, wantFault := p.naiveTokens(s)
		if wantFault.Code == api.ErrArg {
			continue
		}
		said++
		if got, f := text.Tokens(s); f != wantFault || !slices.Equal(got, want) {
			t.Fatalf("%q: %v, %s, not %v, %s", s, got, showFault(f), want, showFault(wantFault))
		}
	}
	if said < 40000 {
		t.Error(said)
	}
}
