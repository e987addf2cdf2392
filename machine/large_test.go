package machine_test

import (
	"runtime"
	"strconv"
	"strings"
	"testing"

	"hornbook/api"
	"hornbook/machine"
)

const works = `
app([],X,X). app([X|Y],Z,[X|W]) :- app(Y,Z,W).
turn([],X,X). turn([X|Y],Z,W) :- turn(Y,[X|Z],W).
rev([],[]). rev([X|Y],Z) :- rev(Y,W), app(W,[X],Z).
down(0). down(N) :- N > 0, M is N - 1, down(M).
downlast(N) :- N > 0, M is N - 1, downlast(M). downlast(0).
downcut(0) :- !. downcut(N) :- two(_), !, M is N - 1, downcut(M).
downopen(0,_). downopen(N,T) :- N > 0, open(T,U), M is N - 1, downopen(M,U).
open(f(_,U),U) :- !. open(_,_).
two(a). two(b).
len([],0). len([_|T],N) :- len(T,M), N is M + 1.
upto(0,[]) :- !. upto(N,[N|T]) :- M is N - 1, upto(M,T).
holes(0,[]) :- !. holes(N,[X|T]) :- M is N - 1, holes(M,T).
wrap(X,f(X)).
wrapped(0,X,X). wrapped(N,X,Z) :- N > 0, wrap(X,Y), M is N - 1, wrapped(M,Y,Z).
pack(X,g(X,_),Y) :- Y = g(X,_).
packed(0,X,X). packed(N,X,Z) :- N > 0, pack(X,Y,Y), M is N - 1, packed(M,Y,Z).
left(0,T,T). left(N,T,R) :- N > 0, M is N - 1, left(M,f(T,X),R).
twice(0,T,T). twice(N,T,R) :- N > 0, M is N - 1, twice(M,f(T,T),R).
twin(0,T,T). twin(N,T,R) :- N > 0, M is N - 1, both(T,U), twin(M,U,R).
both(X,f(X,X)).
chain(0,_). chain(N,X) :- N > 0, X = Y, M is N - 1, chain(M,Y).
grow(0,_). grow(N,[N|U]) :- N > 0, M is N - 1, grow(M,U).
many(_). many(N) :- N > 0, M is N - 1, many(M).
loop :- two(_), fail. loop :- loop.
p(f(_,_)). p(g).
opened(N) :- openfirst(N,T), !, down(N). openfirst(N,T) :- downopen(N,T).
`

// enough steps for all that comes to an end here.
const enough = 1 << 24

func started(t *testing.T, query string) *machine.Machine {
	t.Helper()
	return built(t, compiled(t, works, read(t, query)), read(t, query))
}

// TestLong: much is done in time that does not grow faster than it.
func TestLong(t *testing.T) {
	t.Parallel()
	for _, query := range []string{
		"down(300000)", "downlast(300000)", "downcut(200000)", "downopen(50000,T)", "upto(300000,L), len(L,300000)", "upto(300,L), rev(L,M), rev(M,L)",
		"upto(100000,L), turn(L,[],M), turn(M,[],L)", "holes(60000,L), turn(L,[],M), turn(M,[],N), L == N", "holes(60000,L), copy_term(L,M), L = M, L == M",
		"wrapped(60000,X,Z), var(X)", "wrapped(60000,a,Z), ground(Z)", "packed(60000,X,Z), var(X)", "left(60000,X,Z), var(X), X = a", "chain(100000,X), X = a", "grow(200000,T), len(T,N), N > 100000",
		"many(300000), fail", "many(N), N = 3",
	} {
		want := api.Answer
		if strings.HasSuffix(query, "fail") {
			want = api.None
		}
		if o := started(t, query).Next(enough); o.Kind != want {
			t.Error(query, o.Kind, o.Steps, o.Ball.Name)
		}
	}
}

// TestLongLoops: whether a term would be nested in itself is told of great ones too, by the instruction that asks for it.
func TestLongLoops(t *testing.T) {
	for _, n := range []int{1, 20, 63, 64, 65, 200, 2000} {
		// The slot 0 has X; the slot 1 a list of n entries that ends with X, and then none of them.
		put := func(end string) string {
			s := "GetVar 0 0\nGetVar 1 5\nGetVal 2 2\nPutVal 6 0\n"
			if end == "a" {
				s += "PutConst 6 a\n"
			}
			s += "GetVar 6 1\n"
			for range n {
				s += "PutComp 6 ./2\nSubVal 3\nSubVal 1\nGetVar 6 1\n"
			}
			return s
		}
		for _, x := range []struct {
			code string
			want string
		}{
			{put("X") + "GetComp 0 f/2\nSubVal 1\nSubVoid 1\nBack", "none/" + strconv.Itoa(4*n+7)},
			{put("X") + "GetComp 0 f/2\nSubConst a\nSubVal 1\nBack", "none/" + strconv.Itoa(4*n+8)},
			{put("X") + "GetComp 0 f/2\nSubComp f/1\nSubVal 1\nBack", "none/" + strconv.Itoa(4*n+8)},
			{put("X") + "PutVal 6 1\nGetVal 0 1\nBack", "none/" + strconv.Itoa(4*n+7)},
			{put("a") + "GetComp 0 f/2\nSubVal 1\nSubVal 1\nBuiltin nonvar/1\nBack", ""},
			{put("X") + "GetComp 1 f/2\nSubVal 1\nSubVal 1\nBuiltin var/1\nBack", ""},
			{put("X") + "GetComp 2 f/2\nSubVal 1\nSubVal 0\nGetComp 0 g/1\nSubVal 5\nBack", ""},
			{put("X") + "GetComp 2 f/2\nSubVal 1\nSubVal 0\nGetVar 2 2\nGetComp 0 g/1\nSubVal 2\nBack", "none/" + strconv.Itoa(4*n+11)},
		} {
			o := built(t, code(t, x.code), c("q", v(0), v(1), v(2))).Next(plenty)
			if x.want != "" && brief(o) != x.want || x.want == "" && o.Kind != api.Answer {
				t.Errorf("%d entries: %d in %d steps, not %s", n, o.Kind, o.Steps, x.want)
			}
		}
	}
}

// TestDeep: what is nested in what, far more than is handed in.
func TestDeep(t *testing.T) {
	t.Parallel()
	const n = 100000
	o := started(t, "wrapped(100000,a,X), print(X), throw(X)").Next(enough)
	if len(o.Text) != 3*n+1 {
		t.Error(len(o.Text))
	}
	depth := 0
	for x := o.Ball; x.Name == "f" && len(x.Args) == 1; x = x.Args[0] {
		depth++
	}
	if depth != n {
		t.Error(depth)
	}
	o = started(t, "upto(100000,L)").Next(enough)
	count := 0
	for x := o.Term.Args[1]; x.Name == "." && x.Args[0].N == int64(n-count); x = x.Args[1] {
		count++
	}
	if count != n {
		t.Error(count)
	}
	// As deep in the code, and the query as deep as the document bounds.
	l := []api.Instr{{Op: api.GetComp, Con: pred("f", 2)}}
	for range 49990 {
		l = append(l, api.Instr{Op: api.SubComp, Con: pred("f", 2)}, api.Instr{Op: api.SubComp, Con: pred("f", 1)})
	}
	l = append(l, api.Instr{Op: api.SubVar}, api.Instr{Op: api.Back})
	query := v(0)
	for range 1<<16 - 1 {
		query = c("g", query)
	}
	if o := built(t, api.Code{Instrs: l}, query).Next(plenty); o.Kind != api.Answer || o.Steps != len(l) {
		t.Error(o.Kind, o.Steps)
	}
}

// TestWhatCannotBeWrittenOut: terms that, written out, had more parts than any memory: each stands in another twice.
func TestWhatCannotBeWrittenOut(t *testing.T) {
	for query, want := range map[string]int{
		"twice(100,a,X), twice(100,a,Y), X = Y, X == Y, ground(X), copy_term(X,Z), Z == X, fail":                        api.None,
		"twin(100,A,X), twin(100,B,Y), X = Y, A == B, X == Y, copy_term(X,Z), Z = X, A = 1, ground(f(X,Y,Z)), throw(a)": api.Thrown,
		"twin(100,A,X), twice(100,B,Y), both(X,Z), both(Y,Z), A == B, throw(a)":                                         api.Thrown,
		"twin(100,A,X), A = f(X)":                       api.None,
		"twin(100,A,X), both(X,A)":                      api.None,
		"twin(100,A,X), twin(100,B,Y), f(A,B) = f(Y,X)": api.None,
		"twice(100,a,X), twice(100,b,Y), X \\= Y, X @< Y, X \\== Y, sort([Y,X,Y],[U,V]), U == X, functor(X,f,2), arg(1,X,Z), Z \\= Y, fail": api.None,
	} {
		if o := started(t, query).Next(enough); o.Kind != want || want == api.Thrown && !same(o.Ball, a("a")) {
			t.Error(query, o.Kind, o.Steps, o.Ball.Name)
		}
	}
}

// TestManyAnswers: what was bound behind a choice is free again, however much it was.
func TestManyAnswers(t *testing.T) {
	m := started(t, "holes(300,L), two(X), upto(300,L), two(Y)")
	for k, xy := range [][2]string{{"a", "a"}, {"a", "b"}, {"b", "a"}, {"b", "b"}} {
		o := m.Next(plenty)
		if o.Kind != api.Answer || !strings.HasSuffix(show(o.Term), "two("+xy[1]+")") || !strings.Contains(show(o.Term), "two("+xy[0]+"),upto(300,[300,299") {
			t.Error(k, o.Kind, show(o.Term))
		}
	}
	if o := m.Next(plenty); o.Kind != api.None {
		t.Error(o.Kind)
	}
	m = started(t, "many(1000)")
	for k := range 1001 {
		if o := m.Next(plenty); o.Kind != api.Answer {
			t.Fatal(k, o.Kind)
		}
	}
	if o := m.Next(plenty); o.Kind != api.None {
		t.Error(o.Kind)
	}
}

// TestManySlots: all slots, in many frames and behind many choices, are as they were.
func TestManySlots(t *testing.T) {
	src := "query: Call p/0\nPutVal 0 0\nBuiltin var/1\nBack\n"
	src += "p/0: GetVar 49 199\n"
	for k := range 199 {
		src += "PutConst 5 " + strconv.Itoa(k) + "\nGetVar 5 " + strconv.Itoa(k) + "\n"
	}
	src += "Try b\n"
	for k := range 199 {
		src += "PutConst 5 x\nGetVar 5 " + strconv.Itoa(k) + "\nTry c\n"
	}
	src += "Fail\nc: Fail\nb: "
	for k := range 199 {
		src += "PutVal 5 " + strconv.Itoa(k) + "\nGetConst 5 " + strconv.Itoa(k) + "\n"
	}
	src += "Back\n"
	if o := built(t, code(t, src), a("q")).Next(plenty); o.Kind != api.Answer || o.Steps != 2+2*199+1+3*199+1+199+2*199+1+3 {
		t.Error(o.Kind, o.Steps)
	}
	// Many choices, and behind each a slot and an arg are written.
	l := code(t, "on: Try out\nGetVar 0 198\nPutVar 7 1\nPutVal 0 1\nPutVal 48 1\nJump on\nout: Fail")
	m := built(t, l, v(0))
	if o := m.Next(600000); o.Kind != api.Out || o.Steps != 600000 {
		t.Error(o.Kind, o.Steps)
	}
}

// inUse is how much memory is in use when all that can be let go is gone.
func inUse() uint64 {
	runtime.GC()
	runtime.GC()
	var m runtime.MemStats
	runtime.ReadMemStats(&m)
	return m.HeapAlloc
}

// TestWhatIsDoneIsLetGo: a machine keeps nothing behind its last outcome.
func TestWhatIsDoneIsLetGo(t *testing.T) {
	for query, want := range map[string]int{
		"upto(100000,L), fail": api.None, "upto(100000,L), throw(a)": api.Thrown, "upto(100000,L), p(X), loop": api.Out, "upto(100000,L)": api.Answer,
	} {
		before := inUse()
		m := started(t, query)
		if kind := m.Next(2000000).Kind; kind != want {
			t.Error(query, kind)
		}
		if now := inUse(); now > before+1<<20 {
			t.Errorf("%s: %d bytes in use, %d ahead of that", query, now, before)
		}
		runtime.KeepAlive(m)
	}
}

// TestAnswersKeepLittle: what is in use at an answer, with choices left, is what the machine can come back to.
func TestAnswersKeepLittle(t *testing.T) {
	for _, query := range []string{
		"two(X), down(200000)", "two(X), downcut(200000)", "two(X), downcut(200000), two(Y)", "p(T), downcut(200000), p(U)", "two(X), opened(100000)",
	} {
		before := inUse()
		m := started(t, query)
		if o := m.Next(enough); o.Kind != api.Answer {
			t.Error(query, o.Kind, o.Steps)
		}
		if now := inUse(); now > before+2<<20 {
			t.Errorf("%s: %d bytes in use, %d ahead of that", query, now, before)
		}
		if o := m.Next(0); o.Kind != api.Out && o.Kind != api.None {
			t.Error(query, o.Kind)
		}
	}
}
