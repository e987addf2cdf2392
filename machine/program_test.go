package machine_test

import (
	"strconv"
	"testing"

	"hornbook/api"
	"hornbook/base"
	"hornbook/machine"
	"hornbook/text"
)

// coder makes code of clauses whose bodies are goals in a row, `!` among them: slot by slot, as chapter 10 tells it.
type coder struct {
	code  api.Code
	slots map[int64]int
	level int // the slot for the level
}

func (x *coder) emit(l ...api.Instr) { x.code.Instrs = append(x.code.Instrs, l...) }

func (x *coder) slot(n int64) (slot int, again bool) {
	slot, again = x.slots[n]
	if !again {
		slot = len(x.slots)
		x.slots[n] = slot
	}
	return slot, again
}

func isComp(t api.Term) bool { return t.Kind == api.Comp }

func of(t api.Term) api.Constant {
	if isComp(t) {
		return pred(t.Name, int64(len(t.Args)))
	}
	return api.Constant{Kind: t.Kind, Name: t.Name, N: t.N}
}

// arg gets or puts an arg: the instructions are those for a variable that is new, one that is not, a constant, a compound.
func (x *coder) arg(at int, t api.Term, ops [4]int) {
	switch t.Kind {
	case api.Var:
		slot, again := x.slot(t.N)
		if again {
			x.emit(api.Instr{Op: ops[1], A: at, B: slot})
		} else {
			x.emit(api.Instr{Op: ops[0], A: at, B: slot})
		}
	case api.Comp:
		x.emit(api.Instr{Op: ops[3], A: at, Con: of(t)})
		for _, part := range t.Args {
			x.part(part)
		}
	default:
		x.emit(api.Instr{Op: ops[2], A: at, Con: of(t)})
	}
}

func (x *coder) part(t api.Term) {
	switch t.Kind {
	case api.Var:
		slot, again := x.slot(t.N)
		if again {
			x.emit(api.Instr{Op: api.SubVal, A: slot})
		} else {
			x.emit(api.Instr{Op: api.SubVar, A: slot})
		}
	case api.Comp:
		x.emit(api.Instr{Op: api.SubComp, Con: of(t)})
		for _, part := range t.Args {
			x.part(part)
		}
	default:
		x.emit(api.Instr{Op: api.SubConst, Con: of(t)})
	}
}

func goalsOf(t api.Term) []api.Term {
	if isComp(t) && t.Name == "," && len(t.Args) == 2 {
		return append(goalsOf(t.Args[0]), goalsOf(t.Args[1])...)
	}
	return []api.Term{t}
}

func (x *coder) body(t api.Term) {
	goals := goalsOf(t)
	for k, goal := range goals {
		predicate := pred(goal.Name, int64(len(goal.Args)))
		switch {
		case goal.Name == "true":
		case goal.Name == "fail":
			x.emit(api.Instr{Op: api.Fail})
		case goal.Name == "!":
			x.emit(api.Instr{Op: api.Cut, A: x.level})
		default:
			for at, arg := range goal.Args {
				x.arg(at, arg, [4]int{api.PutVar, api.PutVal, api.PutConst, api.PutComp})
			}
			switch {
			case machine.Allowed(goal.Name, len(goal.Args)):
				x.emit(api.Instr{Op: api.Builtin, Con: predicate})
			case k == len(goals)-1:
				x.emit(api.Instr{Op: api.Last, Con: predicate})
				return
			default:
				x.emit(api.Instr{Op: api.Call, Con: predicate})
			}
		}
	}
	x.emit(api.Instr{Op: api.Back})
}

func (x *coder) clause(l api.Clause, others bool) {
	try := len(x.code.Instrs)
	if others {
		x.emit(api.Instr{Op: api.Try})
	}
	x.slots = map[int64]int{}
	x.level = api.MaxSlots - 1
	for _, goal := range goalsOf(l.Body) {
		if goal.Name == "!" {
			// As an arg is got it may be needed that it is still what it was.
			x.emit(api.Instr{Op: api.Level, A: x.level})
			break
		}
	}
	for k, arg := range l.Head.Args {
		x.arg(k, arg, [4]int{api.GetVar, api.GetVal, api.GetConst, api.GetComp})
	}
	x.body(l.Body)
	if others {
		x.code.Instrs[try].A = len(x.code.Instrs)
	}
}

// compiled is code of a program and a query.
func compiled(t *testing.T, program string, query api.Term) api.Code {
	t.Helper()
	sentences, f := text.Read(program, text.Default())
	if f.Code != api.OK {
		t.Fatalf("%q: error %d at %d", program, f.Code, f.At)
	}
	var names []string
	of := map[string][]api.Clause{}
	for _, s := range sentences {
		l, err := base.Make(s.Term)
		if err != api.OK {
			t.Fatalf("%s: %v", show(s.Term), err)
		}
		name := l.Head.Name + "/" + strconv.Itoa(len(l.Head.Args))
		if of[name] == nil {
			names = append(names, name)
		}
		of[name] = append(of[name], l)
	}
	x := &coder{slots: map[int64]int{}}
	for k, n := range varsOf(query) {
		slot, _ := x.slot(n)
		x.emit(api.Instr{Op: api.GetVar, A: k, B: slot})
	}
	x.body(query)
	for _, name := range names {
		head := of[name][0].Head
		x.code.Entries = append(x.code.Entries, api.Entry{Name: head.Name, N: len(head.Args), At: len(x.code.Instrs)})
		for k, l := range of[name] {
			x.clause(l, k < len(of[name])-1)
		}
	}
	return x.code
}

const library = `
app([],X,X). app([X|Y],Z,[X|W]) :- app(Y,Z,W).
rev([],[]). rev([X|Y],Z) :- rev(Y,W), app(W,[X],Z).
turn([],X,X). turn([X|Y],Z,W) :- turn(Y,[X|Z],W).
has(X,[X|_]). has(X,[_|Y]) :- has(X,Y).
first(X,Y) :- has(X,Y), !.
perm([],[]). perm(X,[Y|Z]) :- app(U,[Y|V],X), app(U,V,W), perm(W,Z).
size([],0). size([_|X],N) :- size(X,M), N is M + 1.
big(X,Y) :- X > Y, !, print(big). big(_,_) :- print(small), nl.
other(X,Y) :- X = Y, !, fail. other(_,_).
tree(leaf,[]). tree(node(L,X,R),Z) :- tree(L,U), tree(R,V), app(U,[X|V],Z).
color(red). color(green). color(blue).
map([A,B,C,D]) :- color(A), color(B), A \= B, color(C), A \= C, B \= C, color(D), D \== A, B \== D.
bad(X) :- print(f(X,Y,Y)), throw(f(Y,X)).
odd(f(X,g(X,[Y])),Y,X). odd(X,X,f(X)). odd(f(f(X)),f(X),X).
`

// TestPrograms: a machine says what a search says.
func TestPrograms(t *testing.T) {
	b := program(t, library)
	for _, query := range []string{
		"app(X,Y,[a,b,c])", "app([a],[b|X],Y)", "app(X,X,[1,2,1,2])", "app(X,[a],Y)", "rev([a,b,c,D],X)", "turn([a,b,c],[],X)", "turn([a,B|C],[],X)", "has(X,[a,B,f(B)])", "has(f(X),[a,Y,f(b),f(X,X),f(Z)])",
		"first(X,[a,b])", "first(X,Y), X = a", "has(X,[a,b]), first(Y,[X,c])", "perm([a,b,c],X)", "perm([a,X],[X,a])", "size([a,b,c],N)", "size(X,N)", "big(1,2)", "big(2,1)", "big(2,a)", "big(X,1)", "other(X,a)", "other(b,a)", "other(f(X),X)",
		"tree(node(leaf,a,node(leaf,b,leaf)),X)", "map(X)", "bad(a)", "bad(X)", "app(X,Y,[a,b]), bad(X)", "odd(X,Y,Z)", "odd(X,X,Y)", "odd(f(X),Y,X)", "nope(X)", "app(X,Y,[a]), nope(X,Y)", "X = Y, print(X), Y = f(Z), print(X)", "true", "fail", "has(X,[a,b,c]), print(X), fail",
	} {
		search, m := searching(t, b, query), built(t, compiled(t, library, read(t, query)), read(t, query))
		for k := range 10 {
			want, got := search.Next(3000), m.Next(60000)
			if want.Kind == api.Out {
				// What has no end has none with either, but the texts may be unlike.
				if got.Kind != api.Out {
					t.Errorf("%s: %s, not out", query, showOutcome(got))
				}
				break
			}
			want.Steps, got.Steps = 0, 0
			if showOutcome(got) != showOutcome(want) {
				t.Errorf("outcome %d of %s: %s, not %s", k, query, showOutcome(got), showOutcome(want))
				break
			}
		}
	}
}

// TestProgramsWordByWord: and it says, step by step, what the chapter does.
func TestProgramsWordByWord(t *testing.T) {
	x := chance(3)
	for k, query := range []string{"app(X,Y,[a,b,c])", "rev([a,b,c,D],X)", "turn([a,B|C],[],X)", "has(f(X),[a,Y,f(b),f(X,X),f(Z)])", "first(X,[a,b])", "perm([a,b],X)", "big(2,1)", "other(f(X),X)", "odd(X,Y,Z)", "odd(X,X,Y)", "bad(X)"} {
		for range 5 {
			heldAgainst(t, k, compiled(t, library, read(t, query)), read(t, query), &x, map[int]int{})
		}
	}
}
