package text_test

import (
	"slices"
	"strings"
	"testing"

	"hornbook/api"
	"hornbook/text"
)

func TestDefault(t *testing.T) {
	want := []api.Op{
		{Name: ":-", Prio: 1200, Type: api.XFX}, {Name: "-->", Prio: 1200, Type: api.XFX},
		{Name: "=", Prio: 700, Type: api.XFX}, {Name: `\=`, Prio: 700, Type: api.XFX}, {Name: "==", Prio: 700, Type: api.XFX}, {Name: `\==`, Prio: 700, Type: api.XFX},
		{Name: "@<", Prio: 700, Type: api.XFX}, {Name: "@>", Prio: 700, Type: api.XFX}, {Name: "@=<", Prio: 700, Type: api.XFX}, {Name: "@>=", Prio: 700, Type: api.XFX},
		{Name: "=..", Prio: 700, Type: api.XFX}, {Name: "is", Prio: 700, Type: api.XFX}, {Name: "=:=", Prio: 700, Type: api.XFX}, {Name: `=\=`, Prio: 700, Type: api.XFX},
		{Name: "<", Prio: 700, Type: api.XFX}, {Name: ">", Prio: 700, Type: api.XFX}, {Name: "=<", Prio: 700, Type: api.XFX}, {Name: ">=", Prio: 700, Type: api.XFX},
		{Name: "**", Prio: 200, Type: api.XFX},
		{Name: ";", Prio: 1100, Type: api.XFY}, {Name: "->", Prio: 1050, Type: api.XFY}, {Name: "^", Prio: 200, Type: api.XFY},
		{Name: "+", Prio: 500, Type: api.YFX}, {Name: "-", Prio: 500, Type: api.YFX}, {Name: `/\`, Prio: 500, Type: api.YFX}, {Name: `\/`, Prio: 500, Type: api.YFX}, {Name: "xor", Prio: 500, Type: api.YFX},
		{Name: "*", Prio: 400, Type: api.YFX}, {Name: "/", Prio: 400, Type: api.YFX}, {Name: "//", Prio: 400, Type: api.YFX}, {Name: "mod", Prio: 400, Type: api.YFX},
		{Name: "rem", Prio: 400, Type: api.YFX}, {Name: "div", Prio: 400, Type: api.YFX}, {Name: "<<", Prio: 400, Type: api.YFX}, {Name: ">>", Prio: 400, Type: api.YFX},
		{Name: `\+`, Prio: 900, Type: api.FY}, {Name: "-", Prio: 200, Type: api.FY}, {Name: `\`, Prio: 200, Type: api.FY},
		{Name: ":-", Prio: 1200, Type: api.FX},
	}
	if got := text.Default(); !slices.Equal(got, want) {
		t.Error(got)
	}
	if text.CheckOps(text.Default()) != api.OK {
		t.Error("Default has operators that may not be")
	}
}

func TestCheckOps(t *testing.T) {
	long := strings.Repeat("x", api.MaxName)
	for _, ops := range [][]api.Op{
		nil, {}, {op("a", 1, api.XFX)}, {op("a", 1200, api.XFY)}, {op("", 1, api.YFX)}, {op("|,", 5, api.FY)}, {op("[", 5, api.FX)}, {op("]", 5, api.FX)}, {op("[ ]", 5, api.FX)},
		{op("a", 1, api.XFX), op("a", 1, api.FX)}, {op("a", 1, api.FY), op("a", 7, api.YFX)}, {op("a", 1, api.FY), op("A", 1, api.FY)},
		{op(long, 1, api.FY), op(long[1:], 1, api.FY), op(long, 2, api.XFX)}, {op("\x00\xff", 3, api.XFX)}, {op("(", 3, api.XFX), op(".", 3, api.YFX), op("'", 3, api.FY)},
		many(api.MaxOps), many(api.MaxOps - 1),
	} {
		if err := text.CheckOps(ops); err != api.OK {
			t.Errorf("%v: %v", ops, err)
		}
	}
	for _, ops := range badOps() {
		if err := text.CheckOps(ops); err != api.ErrOp {
			t.Errorf("%v: %v", ops, err)
		}
	}
}

// TestOrderOfOps: the order of operators says nothing.
func TestOrderOfOps(t *testing.T) {
	x := chance(1)
	for range 300 {
		ops, u := x.ops(), x.term(4)
		back := slices.Clone(ops)
		slices.Reverse(back)
		want, _ := text.Print(u, ops)
		prints(t, u, back, want)
		reads(t, want, back, renamed(u))
	}
	for _, ops := range badOps() {
		slices.Reverse(ops)
		if err := text.CheckOps(ops); err != api.ErrOp {
			t.Errorf("%v: %v", ops, err)
		}
	}
}
