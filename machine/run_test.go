package machine_test

import (
	"strings"
	"testing"

	"hornbook/api"
	"hornbook/machine"
)

// TestExample is the document's.
func TestExample(t *testing.T) {
	l := api.Code{Instrs: []api.Instr{{Op: api.PutConst, Con: atom("a")}, {Op: api.GetConst, Con: atom("a")}, {Op: api.Back}}}
	m := built(t, l, c("q", v(4), i(1)))
	if o := m.Next(100); showOutcome(o) != showOutcome(api.Outcome{Kind: api.Answer, Term: c("q", v(0), i(1)), Steps: 3}) {
		t.Error(showOutcome(o))
	}
	for range 3 {
		if o := m.Next(100); showOutcome(o) != showOutcome(api.Outcome{Kind: api.None}) {
			t.Error(showOutcome(o))
		}
	}
}

// each is code, with instructions in a line behind one another, and what comes of queries.
type each struct {
	code, query, want string
}

func (x each) run(t *testing.T) {
	t.Helper()
	l := code(t, strings.ReplaceAll(x.code, "; ", "\n"))
	if got := outcomes(t, l, x.query); got != x.want {
		t.Errorf("%s\n%s: %s, not %s", x.code, x.query, got, x.want)
	}
	// The machine of the tests, which is the chapter word by word, must not say otherwise.
	x1 := chance(5)
	heldAgainst(t, 0, l, read(t, x.query), &x1, map[int]int{})
}

// TestArgs: what gets and puts.
func TestArgs(t *testing.T) {
	for _, x := range []each{
		{"Back", "q", "q/1; none/0"},
		{"Back", "q(X,Y,X,f(Z))", "q(_0,_1,_0,f(_2))/1; none/0"},
		{"Back", "7", "7/1; none/0"},
		{"GetConst 0 a; Back", "X", "a/2; none/0"},
		{"GetConst 0 a; GetConst 1 -5; Back", "q(Y,X)", "q(a,-5)/3; none/0"},
		{"GetConst 0 a; GetConst 1 5; Back", "q(Y,g(X),Y)", "q(a,g(5),a)/3; none/0"},
		{"GetConst 0 a; GetConst 0 a; GetConst 0 b; Back", "q(X)", "none/3"},
		{"GetConst 0 5; GetConst 0 a; Back", "q(X)", "none/2"},
		{"GetConst 0 []; GetConst 0 []; Back", "q(X)", "q([])/3; none/0"},
		// Of an integer and an atom of that name, of an atom and a compound.
		{"PutConst 5 1; GetConst 5 2; Back", "q", "none/2"},
		{"PutComp 5 a/1; SubVoid 1; GetConst 5 a; Back", "q", "none/3"},
		{"GetVar 0 3; PutVal 1 3; GetConst 1 a; Back", "q(X,Y)", "q(a,_0)/4; none/0"},
		{"GetVar 0 3; GetVal 1 3; Back", "q(X,Y)", "q(_0,_0)/3; none/0"},
		{"GetVar 0 3; GetVal 1 3; GetConst 0 a; GetVal 1 3; Back", "q(X,Y)", "q(a,a)/5; none/0"},
		{"GetVar 0 199; GetVal 1 199; GetVal 49 199; PutVal 48 199; GetConst 48 a; GetConst 49 a; Back", "q(X,Y)", "q(a,a)/7; none/0"},
		{"PutVar 0 0; GetConst 0 a; PutVal 1 0; GetConst 1 a; Back", "q(X,Y)", "q(_0,_1)/5; none/0"},
		{"PutVar 0 0; GetConst 0 a; PutVal 1 0; GetConst 1 b; Back", "q(X,Y)", "none/4"},
		{"GetVar 1 0; PutVar 5 0; GetVal 0 0; GetConst 5 a; Back", "q(X,Y)", "q(a,_0)/5; none/0"},
		{"PutConst 0 a; GetConst 0 a; Back", "q(X)", "q(_0)/3; none/0"},
		{"GetVar 0 0; PutConst 0 a; GetVal 0 0; Back", "q(X)", "q(a)/4; none/0"},
		{"GetVar 0 0; GetVar 0 0; GetVar 1 0; PutConst 1 b; GetVal 1 0; Back", "q(X,Y)", "q(_0,b)/6; none/0"},
		{"GetVar 0 0; GetConst 0 a; PutVal 1 0; GetConst 1 a; Back", "q(X,Y)", "q(a,_0)/5; none/0"},
	} {
		x.run(t)
	}
}

// TestNotSet: an arg or a slot that was not set is a new variable from then on.
func TestNotSet(t *testing.T) {
	for _, x := range []each{
		{"GetVal 7 9; GetConst 7 a; PutVal 3 9; GetConst 3 b; Back", "q", "none/4"},
		{"GetVal 7 9; GetConst 7 a; PutVal 3 9; GetConst 3 a; Back", "q", "q/5; none/0"},
		{"GetVar 7 9; GetConst 7 a; PutVal 0 9; Builtin print/1; Back", "q", "<a>q/5; none/0"},
		{"GetConst 7 a; GetConst 7 b; Back", "q", "none/2"},
		{"GetComp 7 f/2; SubConst a; SubVar 1; GetComp 7 f/2; SubConst b; Back", "q", "none/5"},
		{"PutVal 0 5; PutVal 1 5; Builtin ==/2; Back", "q", "q/4; none/0"},
		{"Builtin print/1; Builtin var/1; GetConst 0 a; Builtin print/1; Back", "q", "<_0a>q/5; none/0"},
		{"Builtin =/2; GetConst 0 a; GetConst 1 b; Back", "q", "none/3"},
		{"PutComp 0 f/1; SubVal 8; PutVal 1 8; GetConst 1 a; Builtin print/1; Back", "q", "<f(a)>q/6; none/0"},
		{"UnlessConst out a; PutConst 0 b; UnlessConst out b; Back; out: Fail", "q", "q/4; none/0"},
		{"UnlessComp out f/1; Back; out: Fail", "q", "q/2; none/0"},
		// Slots are not set when a predicate is gone to, and as they were behind it; args stay.
		{"PutConst 0 a; GetVar 0 5; Call p/0; PutVal 1 5; Builtin =/2; Back; p/0: PutVal 0 5; GetConst 0 b; PutVal 2 5; PutConst 0 a; Back", "q", "q/11; none/0"},
		{"PutConst 0 a; GetVar 0 5; Last p/0; p/0: PutVal 0 5; Builtin var/1; Back", "q", "q/6; none/0"},
		// A number of choices is none where a term is asked for: then it is lost.
		{"Mark 5; PutVal 0 5; Builtin var/1; GetConst 0 a; PutVal 1 5; Builtin =/2; Back", "q", "q/7; none/0"},
		{"Level 5; GetVal 0 5; Builtin var/1; Back", "q", "q/4; none/0"},
		{"Level 5; PutComp 0 f/2; SubVal 5; SubVal 5; Builtin print/1; Back", "q", "<f(_0,_0)>q/6; none/0"},
		{"PutConst 0 1; GetVar 0 5; Mark 5; PutVal 0 5; Builtin var/1; Back", "q", "q/6; none/0"},
		{"Mark 5; PutVal 0 5; Try other; Cut 5; Fail; other: Back", "q", "q/6; none/0"},
		{"Mark 5; Try other; Cut 5; Fail; other: Back", "q", "none/4"},
	} {
		x.run(t)
	}
}

// TestParts: of a compound that is there, and of one that is made.
func TestParts(t *testing.T) {
	const put = "PutComp 9 f/3; SubConst a; SubComp g/2; SubVar 0; SubConst 1; SubVal 0; "
	for _, x := range []each{
		{put + "GetVar 9 8; GetVal 0 8; Back", "X", "f(a,g(_0,1),_0)/9; none/0"},
		{"GetComp 0 f/3; SubConst a; SubComp g/2; SubVar 0; SubConst 1; SubVal 0; Back", "X", "f(a,g(_0,1),_0)/7; none/0"},
		{put + "GetComp 9 f/3; SubVar 1; SubVar 2; SubVar 3; PutVal 0 1; Builtin print/1; PutVal 0 2; Builtin print/1; PutVal 0 3; Builtin print/1; Back", "q", "<ag(_0,1)_0>q/17; none/0"},
		{put + "GetComp 9 f/3; SubVoid 1; SubComp g/2; SubConst b; SubConst 1; SubConst b; Back", "q", "q/13; none/0"},
		{put + "GetComp 9 f/3; SubVoid 1; SubComp g/2; SubConst b; SubVoid 1; SubConst c; Back", "q", "none/12"},
		{put + "GetComp 9 f/3; SubVoid 1; SubComp g/2; SubConst b; SubConst 2; Back", "q", "none/11"},
		{put + "GetComp 9 f/3; SubComp g/2; Back", "q", "none/8"},
		{put + "GetComp 9 f/3; SubConst b; Back", "q", "none/8"},
		{put + "GetComp 9 f/3; SubVoid 1; SubComp g/3; Back", "q", "none/9"},
		{put + "GetComp 9 f/3; SubVoid 1; SubComp h/2; Back", "q", "none/9"},
		{put + "GetComp 9 f/2; Back", "q", "none/7"},
		{put + "GetComp 9 g/3; Back", "q", "none/7"},
		{put + "GetConst 9 f; Back", "q", "none/7"},
		{"GetConst 0 f; GetComp 0 f/1; Back", "q(X)", "none/2"},
		{"GetConst 0 1; GetComp 0 f/1; Back", "q(X)", "none/2"},
		// Parts that are passed over, also those of a compound in another and then of that one.
		{"GetComp 0 f/3; SubVoid 2; SubConst a; Back", "X", "f(_0,_1,a)/4; none/0"},
		{"GetComp 0 f/3; SubComp g/2; SubVoid 3; SubConst a; Back", "X", "f(g(_0,_1),_2,a)/5; none/0"},
		{"GetComp 0 f/3; SubComp g/2; SubVoid 3; SubConst a; GetComp 0 f/3; SubComp g/2; SubVoid 3; SubConst b; Back", "X", "none/8"},
		{"GetComp 0 f/3; SubComp g/2; SubVoid 4; GetComp 0 f/3; SubComp g/2; SubVoid 4; Back", "X", "f(g(_0,_1),_2,_3)/7; none/0"},
		{"GetComp 0 w/50; SubVoid 50; SubVoid 1; Back", "X", "none/3"},
		// Where no part is left.
		{"SubVar 0; Back", "X", "none/1"},
		{"SubVal 0; Back", "X", "none/1"},
		{"SubConst a; Back", "X", "none/1"},
		{"SubComp f/1; Back", "X", "none/1"},
		{"SubVoid 1; Back", "X", "none/1"},
		{"PutComp 0 f/1; SubVoid 1; SubVar 0; Back", "X", "none/3"},
		{"PutComp 0 f/1; SubVar 0; SubVal 0; Back", "X", "none/3"},
		{"PutComp 0 f/1; SubConst a; SubConst a; Back", "X", "none/3"},
		{"PutComp 0 f/1; SubComp g/1; SubConst a; SubComp f/1; Back", "X", "none/4"},
		{"PutComp 0 f/2; SubVoid 3; Back", "X", "none/2"},
		{"GetComp 0 f/2; SubVoid 1; SubVoid 2; Back", "X", "none/3"},
		{"GetComp 0 f/2; SubVoid 1; Try other; SubVoid 2; other: SubConst a; SubVoid 1; Back", "X", "none/6"},
		// Other instructions leave the parts; these are as they were, whatever was put on the way.
		{"GetComp 0 f/2; PutConst 5 a; SubConst b; GetVar 5 1; SubVal 1; Back", "X", "f(b,a)/6; none/0"},
		{"PutComp 5 f/2; GetVal 0 3; PutVal 7 3; SubConst b; Builtin nl/0; SubConst a; GetVar 5 1; GetVal 0 1; Back", "X", "<\n>f(b,a)/9; none/0"},
		{"PutComp 5 f/2; SubComp g/2; Jump on; on: SubConst 1; Mark 3; SubConst 2; UnlessConst on x; SubConst 3; GetVar 5 1; GetVal 0 1; Back", "X", "f(g(1,2),3)/11; none/0"},
		{"PutComp 5 f/2; SubComp g/2; GetVar 5 1; GetVal 0 1; SubConst 1; SubConst 2; SubConst 3; Back", "X", "f(g(1,2),3)/8; none/0"},
		{"GetComp 0 f/2; SubComp g/2; GetVar 0 1; Builtin print/1; SubConst 1; Builtin print/1; SubConst 2; SubConst 3; Back", "X", "<f(g(_0,_1),_2)f(g(1,_0),_1)>f(g(1,2),3)/9; none/0"},
		// New parts take the place of those that were left.
		{"GetComp 0 f/2; PutComp 5 g/1; SubConst a; SubConst b; Back", "X", "none/4"},
		{"GetComp 0 f/2; GetComp 0 f/2; SubConst a; SubConst b; Back", "X", "f(a,b)/5; none/0"},
		{"GetComp 0 f/2; GetComp 0 f/2; SubVoid 2; SubVoid 1; Back", "X", "none/4"},
		{"PutComp 0 f/2; PutComp 0 f/2; SubConst a; SubConst b; Builtin print/1; Back", "X", "<f(a,b)>_0/6; none/0"},
		// A predicate that is gone to has none, and there are none behind Back.
		{"GetComp 0 f/1; Call p/0; Back; p/0: SubVoid 1; Back", "X", "none/3"},
		{"GetComp 0 f/1; Last p/0; Back; p/0: SubVoid 1; Back", "X", "none/3"},
		{"GetComp 0 f/1; Call p/0; SubVoid 1; Back; p/0: Back", "X", "none/4"},
		{"Call p/0; SubVoid 1; Back; p/0: GetComp 0 f/1; Back", "X", "none/4"},
		{"GetComp 0 f/1; Call p/0; GetComp 0 f/1; SubConst a; Back; p/0: Back", "X", "f(a)/6; none/0"},
	} {
		x.run(t)
	}
}

// TestLoops: a term that would have to be nested in itself is none, and the instruction that asks for it is the one that fails.
func TestLoops(t *testing.T) {
	for _, x := range []each{
		{"GetVar 0 1; GetComp 0 f/2; SubVal 1; SubVoid 1; Back", "X", "none/3"},
		{"GetVar 0 1; GetComp 0 f/2; SubVoid 1; SubVal 1; Back", "X", "none/4"},
		{"GetVar 0 1; GetComp 0 f/2; SubComp g/2; SubVal 1; Back", "X", "none/4"},
		{"GetVar 0 1; PutComp 5 f/1; SubVal 1; GetVar 5 2; GetComp 0 f/3; SubVoid 1; SubVal 2; Back", "X", "none/7"},
		{"GetVar 0 1; PutComp 5 f/1; SubVal 1; GetVar 5 2; GetComp 0 f/2; SubComp f/1; SubVal 2; Back", "X", "none/7"},
		{"GetVar 0 1; PutComp 5 f/1; SubVal 1; GetVal 5 1; Back", "X", "none/4"},
		{"GetVar 0 1; PutComp 5 f/1; SubVal 1; GetVal 0 2; Back", "X", "_0/5; none/0"},
		{"GetComp 0 f/1; SubVar 1; PutVal 2 1; GetVar 0 3; GetVal 2 3; Back", "X", "none/5"},
		{"PutComp 5 f/1; GetVar 5 1; SubVal 1; Back", "X", "none/3"},
		{"PutComp 5 f/2; SubVar 1; GetVar 5 2; SubVal 2; Back", "X", "none/4"},
		{"PutComp 5 f/2; SubVar 1; SubVal 1; PutVal 4 1; GetVar 5 2; GetVal 4 2; Back", "X", "none/6"},
		{"GetVar 0 1; GetVal 1 1; GetComp 0 f/1; GetVar 1 2; SubVal 2; Back", "q(X,Y)", "none/5"},
		// What was begun when it fails is gone: the variable is free, and there are no parts of it.
		{"GetVar 0 1; Try b; GetComp 0 f/2; SubVal 1; Back; b: Builtin var/1; SubVoid 1; Back", "X", "none/6"},
		{"GetVar 0 1; Try b; GetComp 0 f/2; SubComp g/2; SubVal 1; Back; b: PutComp 5 h/2; SubConst a; SubConst b; GetVar 5 2; GetVal 0 2; Back", "X", "h(a,b)/11; none/0"},
		{"GetVar 0 1; Try b; PutComp 0 f/2; SubVoid 3; Back; b: SubVoid 1; Back", "X", "none/5"},
		// The new compound is where its variable was: here that variable is in what a part is to be, but in the compound as well.
		{"GetVar 0 1; PutComp 5 g/1; SubVal 1; GetVar 5 2; GetComp 1 f/2; SubVal 2; SubVal 1; Back", "q(X,Y)", "q(_0,f(g(_0),_0))/8; none/0"},
		{"GetVar 0 1; GetVar 1 2; GetComp 0 f/1; SubVal 2; GetComp 1 f/1; SubVal 1; Back", "q(X,Y)", "none/6"},
	} {
		x.run(t)
	}
}

// TestOrder: calls, jumps and choices.
func TestOrder(t *testing.T) {
	for _, x := range []each{
		{"query: Call p/0; Call p/0; Back; p/0: Builtin nl/0; Back", "q", "<\n\n>q/7; none/0"},
		{"Back; query: Last p/0; p/0: Back", "q", "q/2; none/0"},
		{"Last p/0; p/0: Last r/0; r/0: Call s/0; Back; s/0: Last t/0; t/0: Back", "q", "q/6; none/0"},
		{"Jump on; Fail; on: Back", "q", "q/2; none/0"},
		{"Fail; Back", "q", "none/1"},
		// Predicates of one name with unlike numbers of Args.
		{"Call p/1; Call p/0; Back; p/0: GetConst 0 a; Back; p/1: GetConst 1 b; Back", "q(X,Y)", "q(a,b)/7; none/0"},
		{"Call p/2; Back; p/0: Back; p/1: Back", "q", "ball unknown(p / 2)/1"},
		{"Last p/0; q/0: Back", "q", "ball unknown(p / 0)/1"},
		{"Call nope/50; Back", "q", "ball unknown(nope / 50)/1"},
		// Those that are reserved have no entry.
		{"Call true/0; Back", "q", "ball unknown(true / 0)/1"},
		{"Last =/2; Back", "q", "ball unknown((=) / 2)/1"},
		{"Call call/1; Back", "q", "ball unknown(call / 1)/1"},
		// A ball ends it, whatever choices there are.
		{"Try on; Call nope/0; on: Back", "q", "ball unknown(nope / 0)/2"},
		{"Try on; PutComp 0 f/2; SubVar 1; SubVal 1; Builtin throw/1; on: Back", "q", "ball f(_0,_0)/5"},
		{"Try on; Builtin throw/1; on: Back", "q(X)", "ball unbound/2"},
		// Choices, the newest first; what was bound and put since is as it was.
		{"Try b; GetConst 0 a; Back; b: Try c; GetConst 0 b; Back; c: GetConst 0 c; Back", "X", "a/3; b/3; c/2; none/0"},
		{"Try b; Try c; GetConst 0 a; Back; b: GetConst 0 b; Back; c: GetConst 0 c; Back", "X", "a/4; c/2; b/2; none/0"},
		{"Try b; Fail; b: Try c; GetConst 0 a; GetConst 0 b; c: Back", "X", "_0/6; none/0"},
		{"PutConst 1 a; Try b; PutConst 1 b; PutVar 0 0; Fail; b: GetVal 0 7; GetVar 1 2; GetVal 0 2; Back", "X", "a/9; none/0"},
		{"GetVar 0 0; Try b; PutVar 1 0; PutVar 1 3; Fail; b: PutVal 1 0; GetConst 1 a; PutVal 2 3; GetConst 2 b; PutVal 2 0; GetConst 2 a; Back", "X", "a/12; none/0"},
		{"GetComp 0 f/2; SubConst a; Try b; SubConst b; Back; b: SubConst c; SubVoid 1; b/0: Back", "X", "f(a,b)/5; none/2"},
		{"GetComp 0 f/3; SubConst a; SubComp g/2; Try b; SubConst 1; SubConst 2; SubConst 3; Back; b: SubConst 4; SubConst 5; SubConst 6; Back", "X", "f(a,g(1,2),3)/8; f(a,g(4,5),6)/4; none/0"},
		{"Builtin nl/0; Try b; Builtin nl/0; Fail; b: Builtin nl/0; Back", "X", "<\n\n\n>_0/6; none/0"},
		// The slots of all who called, and from where it was called.
		{"Mark 1; Call p/0; PutVal 1 2; Builtin print/1; GetVar 0 2; PutConst 5 a; GetVar 5 3; Back; p/0: Call r/0; PutConst 5 b; GetVar 5 2; Back; r/0: Try b; PutConst 0 a; Back; b: PutConst 0 b; Back",
			"q", "<a>q/15; <b>q/11; none/0"},
		{"PutConst 7 a; GetVar 7 0; Call p/0; PutVal 0 0; Builtin print/1; PutConst 7 b; GetVar 7 0; PutVal 0 0; Builtin print/1; Back; p/0: Try b; Back; b: Back", "q", "<ab>q/12; <ab>q/8; none/0"},
		{"Call p/0; Call r/0; Fail; p/0: Try b; Back; b: Builtin nl/0; Back; r/0: Builtin nl/0; Back", "q", "<\n\n\n>none/13"},
		// Behind Last the slots of who called are not there, but those of whom that one was called by.
		{"PutConst 5 a; GetVar 5 0; Call p/0; PutVal 0 0; Builtin print/1; Back; p/0: PutConst 5 b; GetVar 5 0; Last r/0; r/0: PutVal 0 0; Builtin var/1; PutConst 5 c; GetVar 5 0; Back", "q", "<a>q/14; none/0"},
		// Code may be gone into from anywhere.
		{"Call p/0; on: Builtin nl/0; Back; p/0: Jump on", "q", "<\n\n>q/6; none/0"},
		{"p/0: UnlessConst on a; PutConst 0 b; Call p/0; on: Builtin nl/0; Back", "q", "<\n\n>q/8; none/0"},
	} {
		x.run(t)
	}
}

// TestCuts: levels, marks, and what goes.
func TestCuts(t *testing.T) {
	for _, x := range []each{
		{"Mark 0; Try b; Cut 0; Back; b: Builtin nl/0; Back", "q", "q/4; none/0"},
		{"Try b; Mark 0; Cut 0; Back; b: Builtin nl/0; Back", "q", "q/4; <\n>q/2; none/0"},
		{"Try b; Mark 0; Try c; Try c; Cut 0; Back; b: Builtin nl/0; Back; c: Fail", "q", "q/6; <\n>q/2; none/0"},
		{"Level 0; Try b; Try b; Cut 0; Back; b: Back", "q", "q/5; none/0"},
		{"Try b; Call p/0; Back; b: Builtin nl/0; Back; p/0: Try c; Level 0; Try c; Cut 0; Back; c: Fail", "q", "q/8; <\n>q/2; none/0"},
		{"Try b; Last p/0; b: Builtin nl/0; Back; p/0: Try c; Level 0; Try c; Cut 0; Back; c: Fail", "q", "q/7; <\n>q/2; none/0"},
		// The level is that of when it was gone to, the one of who called still its own.
		{"Try b; Call p/0; Level 0; Cut 0; Back; b: Builtin nl/0; Back; p/0: Try c; Back; c: Back", "q", "q/7; none/0"},
		{"Call p/0; Try b; Level 0; Cut 0; Back; b: Back; p/0: Try c; Back; c: Back", "q", "q/7; none/0"},
		{"Call p/0; Builtin nl/0; Back; p/0: Try c; Call r/0; Back; c: Back; r/0: Try c; Level 0; Cut 0; Back", "q", "<\n>q/10; <\n>q/3; none/0"},
		// What is no number of choices, or too great a one.
		{"Try b; Cut 0; Back; b: Back", "q", "q/3; q/1; none/0"},
		{"PutConst 0 0; GetVar 0 0; Try b; Cut 0; Back; b: Back", "q", "q/5; q/1; none/0"},
		{"Mark 0; GetVar 0 0; Try b; Cut 0; Back; b: Back", "q(X)", "q(_0)/5; q(_0)/1; none/0"},
		{"Mark 0; Try b; PutVar 5 0; Cut 0; Back; b: Cut 0; Back", "q(X)", "q(_0)/5; q(_0)/2; none/0"},
		{"Mark 1; Try b; Try b; Mark 0; Cut 1; Cut 0; Try b; Cut 0; Back; b: Back", "q", "q/9; q/1; none/0"},
		{"Mark 1; Try b; Try b; Mark 0; Cut 1; Try b; Try b; Try c; Cut 0; Back; b: Back; c: Builtin nl/0; Back", "q", "q/10; q/1; q/1; none/0"},
		// Cut twice is as once; a number may be used again.
		{"Mark 0; Try b; Cut 0; Cut 0; Try c; Cut 0; Back; b: Back; c: Back", "q", "q/7; none/0"},
		// A number is a slot's: it is as it was when one goes on from a choice.
		{"Mark 0; Try b; Try c; Mark 0; Fail; b: Builtin nl/0; Back; c: Cut 0; Fail", "q", "none/7"},
		// What was bound stays when choices go, and is free again by an older one.
		{"Try b; Mark 0; Try b; GetConst 0 a; Cut 0; Back; b: Back", "X", "a/6; _0/1; none/0"},
	} {
		x.run(t)
	}
}

// TestUnless: only the arg 0, and only if it is no variable.
func TestUnless(t *testing.T) {
	const ask = "; Builtin nl/0; out: Back"
	for _, x := range []each{
		{"UnlessConst out a" + ask, "X", "<\n>_0/3; none/0"},
		{"PutConst 0 a; UnlessConst out a" + ask, "q", "<\n>q/4; none/0"},
		{"PutConst 0 b; UnlessConst out a" + ask, "q", "q/3; none/0"},
		{"PutConst 0 1; UnlessConst out 1" + ask, "q", "<\n>q/4; none/0"},
		{"PutConst 0 1; UnlessConst out 2" + ask, "q", "q/3; none/0"},
		{"PutConst 0 1; UnlessConst out a" + ask, "q", "q/3; none/0"},
		{"PutComp 0 a/1; UnlessConst out a" + ask, "q", "q/3; none/0"},
		{"PutConst 1 b; UnlessConst out a" + ask, "X", "<\n>_0/4; none/0"},
		{"GetVar 0 0; GetConst 0 b; PutVal 0 0; UnlessConst out a" + ask, "X", "b/5; none/0"},
		{"GetVar 0 0; GetConst 0 a; PutVal 0 0; UnlessConst out a" + ask, "X", "<\n>a/6; none/0"},
		{"UnlessComp out f/1" + ask, "X", "<\n>_0/3; none/0"},
		{"PutComp 0 f/1; UnlessComp out f/1" + ask, "q", "<\n>q/4; none/0"},
		{"PutComp 0 f/1; SubVoid 1; UnlessComp out f/1" + ask, "q", "<\n>q/5; none/0"},
		{"PutComp 0 f/2; UnlessComp out f/1" + ask, "q", "q/3; none/0"},
		{"PutComp 0 g/1; UnlessComp out f/1" + ask, "q", "q/3; none/0"},
		{"PutConst 0 f; UnlessComp out f/1" + ask, "q", "q/3; none/0"},
		{"PutConst 0 1; UnlessComp out f/1" + ask, "q", "q/3; none/0"},
		{"GetComp 0 f/1; SubConst a; UnlessComp out f/1" + ask, "X", "<\n>f(a)/5; none/0"},
		// Parts are left as they are.
		{"PutComp 0 f/1; UnlessConst out a; Fail; out: SubConst a; Builtin print/1; Back", "q", "<f(a)>q/5; none/0"},
	} {
		x.run(t)
	}
}

// TestBuiltins: what chapter 6 says of the goal with the first so many args.
func TestBuiltins(t *testing.T) {
	for _, x := range []each{
		{"Builtin =/2; Back", "q(X,Y)", "q(_0,_0)/2; none/0"},
		{"Builtin \\=/2; Back", "q(X,Y)", "none/1"},
		{"PutComp 1 +/2; SubConst 1; SubConst 2; Builtin is/2; Back", "q(X)", "q(3)/5; none/0"},
		{"PutComp 1 +/2; SubConst 1; SubConst a; Builtin is/2; Back", "q(X)", "ball not_evaluable(a / 0)/4"},
		{"PutComp 1 +/2; SubConst 1; Builtin is/2; Back", "q(X)", "ball unbound/3"},
		{"PutConst 0 3; PutConst 1 2; Builtin </2; Back", "q(X)", "none/3"},
		{"PutConst 1 f; PutConst 2 2; Builtin functor/3; Back", "X", "f(_0,_1)/4; none/0"},
		{"PutConst 1 f; PutConst 2 51; Builtin functor/3; Back", "X", "ball wrong_kind/3"},
		{"PutConst 0 ab; Builtin atom_chars/2; Back", "q(X,Y)", "q(_0,[a,b])/3; none/0"},
		{"PutComp 0 f/3; SubVar 0; SubVal 0; SubVoid 1; Builtin print/1; Builtin nl/0; Builtin print/1; Back", "q", "<f(_0,_0,_1)\nf(_0,_0,_1)>q/8; none/0"},
		{"Try b; Builtin =/2; Builtin ==/2; GetConst 0 a; Back; b: Builtin ==/2; Back", "q(X,Y)", "q(a,a)/5; none/1"},
		{"PutComp 1 f/2; SubVar 0; SubVal 0; GetVar 0 1; Builtin =/2; PutVal 0 0; PutConst 1 b; Builtin copy_term/2; Builtin =/2; Back", "X", "f(b,b)/10; none/0"},
		{"PutConst 0 a; PutConst 1 b; PutConst 2 c; Builtin print/1; Builtin @</2; Back", "q", "<a>q/6; none/0"},
	} {
		x.run(t)
	}
}

// TestBuiltinsAreThoseOfSearches: each allowed goal, with Args of many kinds, does what a search for it does.
func TestBuiltinsAreThoseOfSearches(t *testing.T) {
	kinds := []string{"A", "B", "f(A)", "a", "b", "ab", "1", "2", "-1", "[]", "[a,b]", "[b,a,b]", "[A,1]", "[f,A,B]", "[a|B]", "1+2", "f(A,B)", "7//A", "'='"}
	b := program(t, "")
	for _, s := range strings.Fields(allowed) {
		name, n, _ := predOf(s)
		for k := range len(kinds) * len(kinds) * len(kinds) {
			if n < 3 && k >= len(kinds)*len(kinds) || n < 2 && k >= len(kinds) || n < 1 && k >= 1 {
				break
			}
			goal := name
			if name != "nl" {
				l := []string{kinds[k%len(kinds)], kinds[k/len(kinds)%len(kinds)], kinds[k/len(kinds)/len(kinds)]}
				goal = "'" + strings.ReplaceAll(name, "\\", "\\\\") + "'(" + strings.Join(l[:n], ",") + ")"
			}
			search := searching(t, b, goal)
			m := built(t, asked(read(t, goal)), read(t, goal))
			for range 2 {
				want, got := search.Next(10), m.Next(1000)
				want.Steps, got.Steps = 0, 0
				if showOutcome(got) != showOutcome(want) {
					t.Fatalf("%s: %s, not %s", goal, showOutcome(got), showOutcome(want))
				}
			}
		}
	}
}

// asked is code of a query that is a builtin.
func asked(goal api.Term) api.Code {
	var l []api.Instr
	slots := map[int64]int{}
	var sub func(t api.Term)
	met := func(n int64) (slot int, again bool) {
		slot, again = slots[n]
		if !again {
			slot = len(slots)
			slots[n] = slot
		}
		return slot, again
	}
	sub = func(t api.Term) {
		switch t.Kind {
		case api.Var:
			slot, _ := met(t.N)
			l = append(l, api.Instr{Op: api.SubVal, A: slot})
		case api.Comp:
			l = append(l, api.Instr{Op: api.SubComp, Con: pred(t.Name, int64(len(t.Args)))})
			for _, arg := range t.Args {
				sub(arg)
			}
		default:
			l = append(l, api.Instr{Op: api.SubConst, Con: api.Constant{Kind: t.Kind, Name: t.Name, N: t.N}})
		}
	}
	// The args are the query's variables first: they go into slots, that the goal is put from.
	for k, n := range varsOf(goal) {
		slot, _ := met(n)
		l = append(l, api.Instr{Op: api.GetVar, A: k, B: slot})
	}
	for k, arg := range goal.Args {
		switch arg.Kind {
		case api.Var:
			slot, _ := met(arg.N)
			l = append(l, api.Instr{Op: api.PutVal, A: k, B: slot})
		case api.Comp:
			l = append(l, api.Instr{Op: api.PutComp, A: k, Con: pred(arg.Name, int64(len(arg.Args)))})
			for _, x := range arg.Args {
				sub(x)
			}
		default:
			l = append(l, api.Instr{Op: api.PutConst, A: k, Con: api.Constant{Kind: arg.Kind, Name: arg.Name, N: arg.N}})
		}
	}
	l = append(l, api.Instr{Op: api.Builtin, Con: pred(goal.Name, int64(len(goal.Args)))}, api.Instr{Op: api.Back})
	return api.Code{Instrs: l}
}

func varsOf(t api.Term) []int64 {
	var l []int64
	met := map[int64]bool{}
	var walk func(t api.Term)
	walk = func(t api.Term) {
		if t.Kind == api.Var && !met[t.N] {
			met[t.N] = true
			l = append(l, t.N)
		}
		for _, arg := range t.Args {
			walk(arg)
		}
	}
	walk(t)
	return l
}

// TestQueryVariables: the args are the query's variables, in the order in which they come first.
func TestQueryVariables(t *testing.T) {
	l := api.Code{}
	args := make([]api.Term, api.MaxArity)
	want := make([]api.Term, api.MaxArity)
	for k := range args {
		args[k] = v(int64(1000 - 7*k))
		want[k] = i(int64(k))
		l.Instrs = append(l.Instrs, api.Instr{Op: api.GetConst, A: k, Con: number(int64(k))})
	}
	l.Instrs = append(l.Instrs, api.Instr{Op: api.Back})
	if o := built(t, l, c("q", c("r", args...), c("r", args...))).Next(100); !same(o.Term, c("q", c("r", want...), c("r", want...))) || o.Steps != 51 {
		t.Error(showOutcome(o))
	}
}

// TestSteps: how many are taken, and what comes if they are not enough.
func TestSteps(t *testing.T) {
	l := code(t, "Builtin nl/0\nTry b\nGetConst 0 a\nBack\nb: Builtin nl/0\nGetConst 0 b\nBack")
	for steps := -3; steps < 12; steps++ {
		m := built(t, l, v(0))
		want, text := "a", "\n"
		first := m.Next(steps)
		if steps < 4 {
			want = ""
			if steps < 1 {
				text = ""
			}
			if first.Kind != api.Out || first.Steps != max(steps, 0) || first.Text != text || !isZero(first.Term) {
				t.Error(steps, showOutcome(first))
			}
			for range 3 {
				if o := m.Next(100); showOutcome(o) != showOutcome(api.Outcome{Kind: api.None}) {
					t.Error(steps, showOutcome(o))
				}
			}
			continue
		}
		if first.Kind != api.Answer || first.Steps != 4 || first.Text != text || !same(first.Term, a(want)) {
			t.Error(steps, showOutcome(first))
		}
		second := m.Next(steps - 5)
		if steps < 8 {
			if second.Kind != api.Out || second.Steps != max(steps-5, 0) {
				t.Error(steps, showOutcome(second))
			}
		} else if brief(second) != "<\n>b/3" {
			t.Error(steps, showOutcome(second))
		}
		if o := m.Next(least); showOutcome(o) != showOutcome(api.Outcome{Kind: api.None}) {
			t.Error(steps, showOutcome(o))
		}
	}
	// Without end.
	for _, s := range []string{"on: Jump on", "p/0: Last p/0", "on: Try on\nJump on", "on: PutComp 0 f/1\nJump on", "p/0: Call p/0\nBack", "on: Try on\nFail"} {
		m := built(t, code(t, s), v(0))
		if o := m.Next(1000); showOutcome(o) != showOutcome(api.Outcome{Kind: api.Out, Steps: 1000}) {
			t.Error(s, showOutcome(o))
		}
		if o := m.Next(1000); showOutcome(o) != showOutcome(api.Outcome{Kind: api.None}) {
			t.Error(s, showOutcome(o))
		}
	}
	// Behind an answer that was the last one nothing is left to do, however few the steps.
	m := built(t, code(t, "Back"), v(0))
	m.Next(1)
	if o := m.Next(-1); showOutcome(o) != showOutcome(api.Outcome{Kind: api.None}) {
		t.Error(showOutcome(o))
	}
}

// TestNoMachine: one that came beside an error says nothing.
func TestNoMachine(t *testing.T) {
	m, _ := machine.New(api.Code{}, a("a"))
	for range 2 {
		if o := m.Next(10); showOutcome(o) != showOutcome(api.Outcome{Kind: api.None}) {
			t.Error(showOutcome(o))
		}
	}
}
