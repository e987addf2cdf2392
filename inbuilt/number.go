package inbuilt

import (
	"hornbook/api"
	"hornbook/arith"
	"hornbook/cell"
)

// numberOf is P13's Eval of a term, or its ball. A term may be far greater, written out, than it is in cells:
// so each part is reckoned once.
func numberOf(v cell.Value) (n int64, ball cell.Value) {
	n = cell.Fold(v, func(v cell.Value) (int64, bool) {
		switch x := v.(type) {
		case cell.Number:
			return int64(x), false
		case *cell.Variable:
			ball = first(ball, Unbound)
			return 0, false
		}
		name, args := cell.Parts(v)
		if arith.Find(name, len(args)) == nil {
			ball = first(ball, notEvaluable(name, len(args)))
		}
		return 0, ball == nil
	}, func(c *cell.Compound, of []int64) int64 {
		if ball != nil {
			return 0
		}
		n, refusal := arith.Find(c.Name, len(of))(of[0], of[len(of)-1])
		if refusal != "" {
			ball = cell.Atom(refusal)
		}
		return n
	})
	return n, ball
}

func first(ball, other cell.Value) cell.Value {
	if ball != nil {
		return ball
	}
	return other
}

func reckoned(d *Desk, args []cell.Value) (bool, cell.Value) {
	n, ball := numberOf(args[1])
	if ball != nil {
		return false, ball
	}
	return d.unify(args[0], cell.Number(n))
}

func related(name string) Deed {
	return func(_ *Desk, args []cell.Value) (bool, cell.Value) {
		x, ball := numberOf(args[0])
		if ball != nil {
			return false, ball
		}
		y, ball := numberOf(args[1])
		if ball != nil {
			return false, ball
		}
		is, _, _ := arith.Holds(name, integer(x), integer(y))
		return is, nil
	}
}

func integer(n int64) api.Term {
	return api.Term{Kind: api.Int, N: n}
}
