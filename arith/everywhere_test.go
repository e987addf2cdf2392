package arith_test

import (
	"slices"
	"strconv"
	"strings"
	"testing"

	"hornbook/api"
	"hornbook/arith"
)

// writeWhole writes all that can be reached from a list of terms, the room behind each list included.
func writeWhole(out *strings.Builder, list []api.Term) {
	out.WriteString(strconv.Itoa(len(list)))
	out.WriteByte('[')
	for _, t := range list[:cap(list)] {
		for _, n := range []int64{int64(t.Kind), t.N} {
			out.WriteString(strconv.FormatInt(n, 10))
			out.WriteByte(' ')
		}
		out.WriteString(strconv.Quote(t.Name))
		writeWhole(out, t.Args)
	}
	out.WriteByte(']')
}

func whole(list ...api.Term) string {
	var out strings.Builder
	writeWhole(&out, list)
	return out.String()
}

// roomy is t anew, with room behind each list, also behind one that has nothing in it.
func roomy(t api.Term) api.Term {
	full := make([]api.Term, len(t.Args)+2)
	for k, arg := range t.Args {
		full[k] = roomy(arg)
	}
	full[len(t.Args)], full[len(t.Args)+1] = a("room"), c("room", v(0))
	t.Args = full[:len(t.Args)]
	return t
}

// places collects where terms lie that can be reached, the room behind each list included.
type places []*api.Term

func (l *places) add(t api.Term) {
	list := t.Args[:cap(t.Args)]
	for k := range list {
		*l = append(*l, &list[k])
		l.add(list[k])
	}
}

func (l places) overlap() bool {
	met := map[*api.Term]bool{}
	for _, x := range l {
		if met[x] {
			return true
		}
		met[x] = true
	}
	return false
}

func (l places) overwrite() {
	for _, x := range l {
		*x = a("overwritten")
	}
}

// samples: with numbers, with balls, folded as a whole, in parts and not at all.
func samples(t *testing.T) []api.Term {
	var list []api.Term
	for _, s := range []string{"1", "a", "X", "1+2*3", "f(1,2)", "f(X,1+2,g(a,2*X,[b,3-1]))", "1//0", "f(1//0)+X", "X+1//0", "2 ^ -1 + 1", "1 << 63", "-(-(-(a)))", "min(1,2,3)", "f(f(f(a,b),c),d)", "(1+2)*(X+(3-1))", "g(a)", "g(X)"} {
		list = append(list, read(t, s))
	}
	x := chance(44)
	for k := range 200 {
		list = append(list, x.term(4, 3+k%20))
	}
	return list
}

// told is all that is answered of two terms.
func told(x, y api.Term) string {
	n, ball, err := arith.Eval(x)
	out := strconv.FormatInt(n, 10) + show(ball) + err.Error()
	folded, err := arith.Fold(x)
	out += show(folded) + err.Error()
	for _, name := range append(relationNames(), "", "=") {
		is, ball, err := arith.Holds(name, x, y)
		out += strconv.FormatBool(is) + show(ball) + err.Error()
	}
	return out
}

func TestNothingIsChanged(t *testing.T) {
	list := slices.Concat(samples(t), nones())
	for k, x := range list {
		y := list[(k*7+3)%len(list)]
		want := told(x, y)
		x2, y2 := roomy(x), roomy(y)
		before := whole(x2, y2)
		if got := told(x2, y2); got != want {
			t.Errorf("%s, %s: what is answered hangs on the room behind lists: %s", show(x), show(y), got)
		}
		if whole(x2, y2) != before {
			t.Errorf("%s, %s: what was handed in was changed", show(x), show(y))
		}
	}
}

// answers: the terms that come out, in memory that is to be theirs alone.
func answers(x, y api.Term) []api.Term {
	_, ball, _ := arith.Eval(x)
	folded, _ := arith.Fold(x)
	_, ball2, _ := arith.Holds("<", x, y)
	_, ball3, _ := arith.Holds("=:=", i(1), y)
	return []api.Term{ball, folded, ball2, ball3}
}

func TestAnswersAreNewMemory(t *testing.T) {
	list := samples(t)
	for k, sample := range list {
		x, y := roomy(sample), roomy(list[(k*7+3)%len(list)])
		before, want := whole(x, y), told(x, y)
		var all, own, theirs places
		all.add(x)
		all.add(y)
		first, second := answers(x, y), answers(x, y)
		for _, t := range slices.Concat(first, second) {
			all.add(t)
		}
		if all.overlap() {
			t.Errorf("%s, %s: memory is shared", show(x), show(y))
		}
		for _, t := range first {
			own.add(t)
		}
		kept := whole(second...)
		own.overwrite()
		if whole(x, y) != before || whole(second...) != kept || told(x, y) != want {
			t.Errorf("%s, %s: overwriting answers is seen", show(x), show(y))
		}
		theirs.add(x)
		theirs.add(y)
		theirs.overwrite()
		if whole(second...) != kept {
			t.Errorf("%s: overwriting what was handed in is seen", show(sample))
		}
	}
}

func TestAnswersAreTheSameAgain(t *testing.T) {
	list := slices.Concat(samples(t), nones())
	var first []string
	for k, x := range list {
		first = append(first, told(x, list[len(list)-1-k]))
	}
	for range 5 {
		for k, x := range list {
			if got := told(x, list[len(list)-1-k]); got != first[k] {
				t.Fatalf("%s: %s, and then %s", show(x), first[k], got)
			}
		}
	}
}

// TestNoPanic: a panic in any of these would end the test. Beside an error nothing is answered but a ball, which is beside ErrKind alone.
func TestNoPanic(t *testing.T) {
	terms := slices.Concat(samples(t)[:60], nones())
	for _, x := range terms {
		if n, ball, err := arith.Eval(x); err != api.OK && n != 0 || isZero(ball) == (err == api.ErrKind) {
			t.Errorf("Eval of %s: %d, %s, %v", show(x), n, show(ball), err)
		}
		if got, err := arith.Fold(x); isZero(got) == (err == api.OK) {
			t.Errorf("Fold of %s: %s, %v", show(x), show(got), err)
		}
		for _, y := range terms {
			for _, name := range []string{"<", ">=", "=:=", "", "is"} {
				if is, ball, err := arith.Holds(name, x, y); err != api.OK && is || isZero(ball) == (err == api.ErrKind) {
					t.Errorf("%s %q %s: %v, %s, %v", show(x), name, show(y), is, show(ball), err)
				}
			}
		}
	}
}
