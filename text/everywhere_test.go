package text_test

import (
	"slices"
	"strconv"
	"strings"
	"testing"

	"hornbook/api"
	"hornbook/text"
)

// writeWhole writes all that can be reached from a list of terms, the room behind each list included.
func writeWhole(out *strings.Builder, list []api.Term) {
	out.WriteString(strconv.Itoa(len(list)))
	out.WriteByte('[')
	for _, t := range list[:cap(list)] {
		for _, n := range []int64{int64(t.Kind), t.N} {
			out.WriteString(strconv.FormatInt(n, 10))
			out.WriteByte(' ')
		}
		out.WriteString(strconv.Quote(t.Name))
		writeWhole(out, t.Args)
	}
	out.WriteByte(']')
}

func whole(t api.Term) string {
	var out strings.Builder
	writeWhole(&out, []api.Term{t})
	return out.String()
}

// roomy is t anew, with room behind each list, also behind one that has nothing in it.
func roomy(t api.Term) api.Term {
	full := make([]api.Term, len(t.Args)+2)
	for k, arg := range t.Args {
		full[k] = roomy(arg)
	}
	full[len(t.Args)], full[len(t.Args)+1] = a("room"), c("room", v(0))
	t.Args = full[:len(t.Args)]
	return t
}

func roomyOps(ops []api.Op) []api.Op {
	full := append(slices.Clone(ops), op("room", 1, api.FY), op("-", 7, api.XFX), api.Op{})
	return full[:len(ops):len(full)]
}

// places collects where things lie that can be reached, the room behind each list included.
type places struct {
	terms     []*api.Term
	names     []*string
	sentences []*api.Sentence
	tokens    []*api.Token
	ops       []*api.Op
}

func pointers[T any](list []T) []*T {
	list = list[:cap(list)]
	out := make([]*T, len(list))
	for k := range list {
		out[k] = &list[k]
	}
	return out
}

func (l *places) addTerms(list []api.Term) {
	l.terms = append(l.terms, pointers(list)...)
	for _, t := range list[:cap(list)] {
		l.addTerms(t.Args)
	}
}

func (l *places) addSentence(s api.Sentence) {
	l.addTerms(s.Term.Args)
	l.names = append(l.names, pointers(s.Names)...)
}

func (l *places) addSentences(list []api.Sentence) {
	l.sentences = append(l.sentences, pointers(list)...)
	for _, s := range list[:cap(list)] {
		l.addSentence(s)
	}
}

func hasTwice[T comparable](list []T) bool {
	met := map[T]bool{}
	for _, x := range list {
		if met[x] {
			return true
		}
		met[x] = true
	}
	return false
}

func (l *places) overlap() bool {
	return hasTwice(l.terms) || hasTwice(l.names) || hasTwice(l.sentences) || hasTwice(l.tokens) || hasTwice(l.ops)
}

func (l *places) overwrite() {
	for _, x := range l.terms {
		*x = a("overwritten")
	}
	for _, x := range l.names {
		*x = "Overwritten"
	}
	for _, x := range l.sentences {
		*x = api.Sentence{Term: a("overwritten"), Names: []string{"X"}, At: 77}
	}
	for _, x := range l.tokens {
		*x = api.Token{Kind: 77, Text: "overwritten", N: 77, At: 77, To: 77}
	}
	for _, x := range l.ops {
		*x = op("overwritten", 77, api.FX)
	}
}

// samples are texts, most of which can be read, as a term or as sentences.
func samples() []string {
	return []string{
		"", "a", "f(X,Y,X,_,[Z|W],{a,b},- 1,c)", "a :- b,c ; d -> \\+ e.", "p(X). q(X,Y) :- p(Y), X is Y*2 - -1. [a,b,c|X]. r.", "X. Y. f(_,_).", "((X+Y)+(Z))", "[a,b,[c,d|E]|E]", "f(f(f(f(a),b),c),d,e,f,g)", "- - - \\ X", "{}. []. 'a b'. 0'c. -7.",
		"f(a", "a b", "'", "f(X. g(Y).", "a. b. )", "9223372036854775808", args("f(", api.MaxArity, ")"), args("f(", api.MaxArity+1, ")"),
	}
}

// told is all that is answered of a text and of a term.
func told(s string, t api.Term, ops []api.Op) string {
	tokens, f := text.Tokens(s)
	sentence, f2 := text.ReadTerm(s, ops)
	sentences, f3 := text.Read(s, ops)
	printed, err := text.Print(t, ops)
	out := showFault(f) + showSentence(sentence) + showFault(f2) + showSentences(sentences) + showFault(f3) + printed + err.Error() + text.CheckOps(ops).Error()
	for _, x := range tokens {
		out += x.Text + " " + strconv.Itoa(x.Kind) + " " + strconv.FormatInt(x.N, 10) + " " + strconv.Itoa(x.At) + " " + strconv.Itoa(x.To) + ";"
	}
	for _, x := range text.Default() {
		out += x.Name + " " + strconv.Itoa(x.Prio) + " " + strconv.Itoa(x.Type) + ";"
	}
	return out
}

func TestNothingIsChanged(t *testing.T) {
	x := chance(21)
	for k := range 300 {
		u, ops, s := x.term(4), x.ops(), samples()[k%len(samples())]
		if k%2 == 0 {
			ops = text.Default()
		}
		want := told(s, u, ops)
		w, more := roomy(u), roomyOps(ops)
		before, opsBefore := whole(w), slices.Clone(more[:cap(more)])
		if got := told(s, w, more); got != want {
			t.Errorf("%q, %s: what is answered hangs on the room behind lists: %s", s, show(u), got)
		}
		if whole(w) != before || !slices.Equal(more[:cap(more)], opsBefore) {
			t.Errorf("%q, %s: what was handed in was changed", s, show(u))
		}
	}
}

func TestAnswersAreNewMemory(t *testing.T) {
	for _, s := range samples() {
		want := told(s, c("-", a("a"), i(1)), text.Default())
		ops := text.Default()
		var all places
		all.ops = pointers(ops)
		for range 2 {
			tokens, _ := text.Tokens(s)
			sentence, _ := text.ReadTerm(s, ops)
			sentences, _ := text.Read(s, ops)
			all.tokens = append(all.tokens, pointers(tokens)...)
			all.addSentence(sentence)
			all.addSentences(sentences)
			all.ops = append(all.ops, pointers(text.Default())...)
		}
		if all.overlap() {
			t.Errorf("%q: memory is shared", s)
		}
		all.overwrite()
		if got := told(s, c("-", a("a"), i(1)), text.Default()); got != want {
			t.Errorf("%q: overwriting answers is seen: %s", s, got)
		}
	}
}

// TestNothingIsKept: what was handed in may be overwritten; what was answered stays.
func TestNothingIsKept(t *testing.T) {
	for _, s := range samples() {
		ops := text.Default()
		sentence, _ := text.ReadTerm(s, ops)
		sentences, _ := text.Read(s, ops)
		u := c("-", c("f", a("a")), i(1))
		printed, _ := text.Print(u, ops)
		want := showSentence(sentence) + showSentences(sentences) + printed
		var theirs places
		theirs.ops = pointers(ops)
		theirs.addTerms(u.Args)
		theirs.overwrite()
		if showSentence(sentence)+showSentences(sentences)+printed != want || printed != "f(a) - 1" {
			t.Errorf("%q: overwriting what was handed in is seen", s)
		}
	}
}

func TestAnswersAreTheSameAgain(t *testing.T) {
	x := chance(22)
	for _, s := range samples() {
		u, ops := x.term(4), x.ops()
		want := told(s, u, ops)
		for range 20 {
			told(pick(&x, samples()), x.term(3), x.ops())
			if got := told(s, u, ops); got != want {
				t.Fatalf("%q, %s: %s, and then %s", s, show(u), want, got)
			}
		}
	}
}

// TestNoPanic: a panic in any of these would end the test. Beside an error nothing is answered, beside a fault neither.
func TestNoPanic(t *testing.T) {
	x := chance(23)
	bad := badOps()
	for k := range 20000 {
		b := make([]byte, x.below(12))
		for m := range b {
			b[m] = byte(x.below(256))
			if x.below(4) > 0 {
				b[m] = "aX0'\\\"(){}[],|. \n-=+*/%_f"[x.below(25)]
			}
		}
		ops := x.ops()
		if k%10 == 0 {
			ops = pick(&x, bad)
		}
		s := string(b)
		if got, f := text.Tokens(s); f.Code == api.OK && f.At != 0 || f.Code != api.OK && (f.Code != api.ErrToken || len(got) != 0 || f.At < 0 || f.At >= len(s)) {
			t.Errorf("Tokens of %q: %v, %s", s, got, showFault(f))
		}
		if got, f := text.ReadTerm(s, ops); f.Code == api.OK && f.At != 0 || f.Code != api.OK && (!isZero(got) || f.At < 0 || f.At > len(s)) {
			t.Errorf("ReadTerm of %q: %s, %s", s, showSentence(got), showFault(f))
		}
		if got, f := text.Read(s, ops); f.Code == api.OK && f.At != 0 || f.Code != api.OK && (len(got) != 0 || f.At < 0 || f.At > len(s)) {
			t.Errorf("Read of %q: %s, %s", s, showSentences(got), showFault(f))
		}
		if got, err := text.Print(x.term(2), ops); (err == api.OK) != (text.CheckOps(ops) == api.OK) || (err == api.OK) != (got != "") {
			t.Errorf("Print with %s: %q, %v", showOps(ops), got, err)
		}
	}
}
