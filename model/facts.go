package model

import (
	"cmp"
	"slices"

	"hornbook/api"
)

// constants that stand in rules: no others stand in what follows from them.
// Their numbers rise as the order of terms asks: so the facts of a predicate have their order as the texts of their numbers.
type constants struct {
	numbers map[api.Constant]uint32
	list    []api.Constant
}

func constantOf(t api.Term) api.Constant {
	return api.Constant{Kind: t.Kind, Name: t.Name, N: t.N}
}

func constantsOf(rules []rule) constants {
	all := constants{numbers: map[api.Constant]uint32{}}
	meet := func(atom api.Term) {
		for _, arg := range atom.Args {
			if arg.Kind != api.Var {
				all.numbers[constantOf(arg)] = 0
			}
		}
	}
	for _, r := range rules {
		meet(r.head)
		for _, g := range r.goals {
			meet(g.atom)
		}
	}
	for c := range all.numbers {
		all.list = append(all.list, c)
	}
	slices.SortFunc(all.list, func(a, b api.Constant) int {
		return cmp.Or(cmp.Compare(a.Kind, b.Kind), cmp.Compare(a.N, b.N), cmp.Compare(a.Name, b.Name))
	})
	for k, c := range all.list {
		all.numbers[c] = uint32(k)
	}
	return all
}

// width is how many bytes of a fact's text the number of a constant has, the greatest first.
const width = 4

func appendNumber(text []byte, n uint32) []byte {
	return append(text, byte(n>>24), byte(n>>16), byte(n>>8), byte(n))
}

// numberAt is the number in a column of a fact.
func numberAt(fact string, column int) uint32 {
	own := fact[column*width : column*width+width]
	return uint32(own[0])<<24 | uint32(own[1])<<16 | uint32(own[2])<<8 | uint32(own[3])
}

// relation: the facts of a predicate. Each is the text of the numbers of its Args.
type relation struct {
	predicate
	facts   map[string]int32 // as which each came
	rows    []string         // they, as they came
	indexes []*index
	done    int // how many of them were gone on from
	growth
}

// growth: what is known of a relation while there may come more facts of it.
type growth struct {
	growing bool
	waiting bool               // is it to be gone on from facts that are new?
	older   int                // how many were gone on from ahead of the newest of those that were
	plans   map[asking][]*plan // to be run from new facts, by what these must have for that
	columns []int              // those in which something is asked for
	wholes  []*plan            // to be run from all facts
}

// asking: which constant must stand in a column; column none: it does not matter.
type asking struct {
	column int
	number uint32
}

// await has a plan be run from such new facts as its first goal may be.
func (g *growth) await(p *plan, first []source) {
	what := asking{column: none}
	for at, arg := range first {
		if arg.slot == none {
			what = asking{at, arg.number}
			break
		}
	}
	if !slices.Contains(g.columns, what.column) {
		g.columns = append(g.columns, what.column)
	}
	if g.plans == nil {
		g.plans = map[asking][]*plan{}
	}
	g.plans[what] = append(g.plans[what], p)
}

// awaited are the plans to be run from the new facts, and those are handed to them.
func (r *relation) awaited() []*plan {
	var list []*plan
	for row := r.older; row < r.done; row++ {
		for _, column := range r.columns {
			what := asking{column: column}
			if column != none {
				what.number = numberAt(r.rows[row], column)
			}
			for _, p := range r.plans[what] {
				if len(p.fresh) == 0 {
					list = append(list, p)
				}
				p.fresh = append(p.fresh, int32(row))
			}
		}
	}
	return list
}

func (r *relation) add(fact []byte) {
	if r.has(fact) {
		return
	}
	own, row := string(fact), int32(len(r.rows))
	r.facts[own] = row
	r.rows = append(r.rows, own)
	for _, x := range r.indexes {
		x.add(own, row)
	}
}

func (r *relation) has(fact []byte) bool {
	_, is := r.facts[string(fact)]
	return is
}

// mostIndexes bounds the room that the indexes of a relation take.
const mostIndexes = 32

// indexOn is an index by some columns (in their order), or, if there are many already, by some of them; nil, if there is none such.
func (r *relation) indexOn(columns []int) *index {
	var best *index
	for _, x := range r.indexes {
		if !isAmong(x.columns, columns) {
			continue
		}
		if len(x.columns) == len(columns) {
			return x
		}
		if best == nil || len(x.columns) > len(best.columns) {
			best = x
		}
	}
	if len(r.indexes) == mostIndexes {
		return best
	}
	own := &index{columns: columns, newest: map[string]int32{}}
	for row, fact := range r.rows {
		own.add(fact, int32(row))
	}
	r.indexes = append(r.indexes, own)
	return own
}

// isAmong: are the numbers of the first list all in the second? Both are rising.
func isAmong(some, all []int) bool {
	for _, n := range all {
		if len(some) > 0 && some[0] == n {
			some = some[1:]
		}
	}
	return len(some) == 0
}

// index: the facts that have the same in some columns, the newest first: so facts that come in between do not come in the way of those
// who go through them.
type index struct {
	columns []int
	newest  map[string]int32
	before  []int32 // of each fact, the next older one that has the same there, or none
	key     []byte
}

func (x *index) add(fact string, row int32) {
	x.key = x.key[:0]
	for _, column := range x.columns {
		x.key = append(x.key, fact[column*width:column*width+width]...)
	}
	x.before = append(x.before, x.first(x.key))
	x.newest[string(x.key)] = row
}

// first is the newest fact of those with a key, or none.
func (x *index) first(key []byte) int32 {
	if row, is := x.newest[string(key)]; is {
		return row
	}
	return none
}

// sorted are the facts in the order of terms.
func (r *relation) sorted() []string {
	list := make([]string, 0, len(r.facts))
	for fact := range r.facts {
		list = append(list, fact)
	}
	slices.Sort(list)
	return list
}

func (r *relation) term(fact string, all constants) api.Term {
	if r.args == 0 {
		return api.Term{Kind: api.Atom, Name: r.name}
	}
	t := api.Term{Kind: api.Comp, Name: r.name, Args: make([]api.Term, r.args)}
	for column := range t.Args {
		c := all.list[numberAt(fact, column)]
		t.Args[column] = api.Term{Kind: c.Kind, N: c.N, Name: c.Name}
	}
	return t
}
