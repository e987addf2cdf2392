package inbuilt

import (
	"strconv"
	"strings"
	"testing"

	"hornbook/base"
	"hornbook/cell"
)

// done are the goals of doc/06-solve.md's second table, but those that have to do with choices or a base; and throw.
const done = "throw/1 =/2 \\=/2 ==/2 \\==/2 @</2 @>/2 @=</2 @>=/2 compare/3 var/1 nonvar/1 atom/1 integer/1 atomic/1 compound/1 callable/1 ground/1 " +
	"functor/3 arg/3 =../2 copy_term/2 is/2 =:=/2 =\\=/2 </2 >/2 =</2 >=/2 atom_length/2 atom_chars/2 length/2 sort/2 print/1 nl/0"

func TestFind(t *testing.T) {
	found := 0
	for _, s := range strings.Fields(done + " a/0 true/0 fail/0 !/0 ,/2 ;/2 ->/2 \\+/1 call/1 call/2 catch/3 findall/3 between/3 assertz/1 asserta/1 retract/1 :-/1 :-/2 -->/2") {
		name := s[:strings.LastIndexByte(s, '/')]
		for args := -1; args < 10; args++ {
			want := strings.Contains(" "+done+" ", " "+name+"/"+strconv.Itoa(args)+" ")
			if got := Find(name, args) != nil; got != want {
				t.Errorf("%s with %d Args: %v", name, args, got)
			}
			if want && !base.Reserved(name, args) {
				t.Errorf("%s with %d Args is not reserved", name, args)
			}
			if want {
				found++
			}
		}
	}
	if found < 35 {
		t.Error(found)
	}
}

// TestDesk: what is printed comes behind what was, and what is thrown is a copy.
func TestDesk(t *testing.T) {
	d := &Desk{Text: []byte("a")}
	x := d.Store.Variable()
	do := func(name string, args ...cell.Value) (bool, cell.Value) { return Find(name, len(args))(d, args) }
	do("print", cell.Made("f", x))
	do("nl")
	do("print", x)
	if string(d.Text) != "af(_0)\n_0" {
		t.Errorf("%q", d.Text)
	}
	is, ball := do("throw", cell.Made("f", x))
	if is || ball == nil || cell.Same(ball, cell.Made("f", x)) || !cell.IsOf(ball, "f", 1) {
		t.Error(is, ball)
	}
	if is, ball := do("=", x, cell.Atom("a")); !is || ball != nil || cell.Deref(x) != cell.Atom("a") {
		t.Error(is, ball)
	}
	if is, ball := do("\\=", x, cell.Atom("b")); !is || ball != nil || d.Store.Marks() != 0 {
		t.Error(is, ball, d.Store.Marks())
	}
}
