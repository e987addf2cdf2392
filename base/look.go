package base

import (
	"math"

	"hornbook/api"
	"hornbook/cell"
	"hornbook/term"
)

// key is what is looked at of a first Arg. The zero key is that of a variable, and of no Arg: they keep nothing out.
type key = cell.Shape

// family: the clauses of a predicate that are there, all, and by the keys of their heads.
type family struct {
	all   *tree
	keyed map[key]*tree
}

// View goes through clauses as they were. A tree is never changed, so that of a moment is all that a view has to keep.
type View struct {
	trees [2]*tree
	last  int // the place of the clause that was given last
}

// Look: P15.
func (b *Base) Look(goal api.Term) ([]int, api.Errno) {
	v, err := b.View(goal)
	if err != api.OK {
		return nil, err
	}
	var list []int
	for e := v.step(); e != nil; e = v.step() {
		list = append(list, idAt(e.place))
	}
	return list, api.OK
}

// View: P15.
func (b *Base) View(goal api.Term) (*View, api.Errno) {
	if err := term.Check(goal); err != api.OK {
		return nil, err
	}
	if !isCallable(goal) {
		return nil, api.ErrClause
	}
	v, _ := b.Rules(goal.Name, len(goal.Args), keyOf(goal))
	return v, api.OK
}

// Rules is a View of a goal, by its predicate and what is seen of its first Arg, and whether the predicate is known:
// so a search needs not write a goal out to look for its clauses.
func (b *Base) Rules(name string, n int, first cell.Shape) (v *View, known bool) {
	v = &View{last: math.MinInt}
	f, known := b.families[predicate{name, n}]
	if known {
		v.trees = f.letThrough(first)
	}
	return v, known
}

// Next: P15.
func (v *View) Next() (id int, c api.Clause, ok bool) {
	// A view that is nil came beside an error.
	if v == nil {
		return 0, api.Clause{}, false
	}
	e := v.step()
	if e == nil {
		return 0, api.Clause{}, false
	}
	return idAt(e.place), copyOfClause(e.clause), true
}

// Rule goes on as Next does, but gives the clause made ready for searching; nil behind the last one.
func (v *View) Rule() (id int, r *cell.Rule) {
	e := v.step()
	if e == nil {
		return 0, nil
	}
	r = e.rule.Load()
	if r == nil {
		r = cell.NewRule(e.clause)
		e.rule.Store(r)
	}
	return idAt(e.place), r
}

// step gives nil behind the last one, and lets go of what was gone through.
func (v *View) step() *entry {
	e := earlier(v.trees[0].after(v.last), v.trees[1].after(v.last))
	if e == nil {
		v.trees = [2]*tree{}
		return nil
	}
	v.last = e.place
	return e
}

// letThrough gives trees that have no clause in common.
func (f *family) letThrough(k key) [2]*tree {
	if k == (key{}) {
		return [2]*tree{f.all}
	}
	return [2]*tree{f.keyed[k], f.keyed[key{}]}
}

func (f *family) lay(e *entry) {
	k := keyOf(e.clause.Head)
	f.all = f.all.with(e)
	f.keyed[k] = f.keyed[k].with(e)
}

func (f *family) drop(e *entry) {
	k := keyOf(e.clause.Head)
	f.all = f.all.without(e.place)
	f.keyed[k] = f.keyed[k].without(e.place)
	if f.keyed[k] == nil {
		delete(f.keyed, k)
	}
}

func keyOf(t api.Term) key {
	if len(t.Args) == 0 || t.Args[0].Kind == api.Var {
		return key{}
	}
	x := t.Args[0]
	return key{Kind: x.Kind, N: x.N, Name: x.Name, Args: len(x.Args)}
}

func earlier(x, y *entry) *entry {
	if x == nil || y != nil && y.place < x.place {
		return y
	}
	return x
}
