package base_test

import (
	"testing"

	"hornbook/api"
	"hornbook/base"
	"hornbook/cell"
)

// TestRules: a view by what is seen of a goal goes through the same clauses as one of the goal, made ready for searching.
func TestRules(t *testing.T) {
	b := laidDown(clauses(t))
	for _, goal := range goals() {
		view, err := b.View(goal)
		if err != api.OK {
			continue
		}
		var first cell.Shape
		if len(goal.Args) > 0 {
			store := &cell.Store{}
			first = store.Read(goal.Args[0]).Shape()
		}
		rules, known := b.Rules(goal.Name, len(goal.Args), first)
		if known != b.Known(goal.Name, len(goal.Args)) {
			t.Errorf("%s is known: %v", show(goal), known)
		}
		for want, x, ok := view.Next(); ok; want, x, ok = view.Next() {
			id, rule := rules.Rule()
			if id != want || rule == nil {
				t.Fatalf("%s: %d, not %d", show(goal), id, want)
			}
			body, _ := numbered(x.Body, nil)
			if got := entered(t, rule, x.Head); !same(got, body) {
				t.Errorf("%s: the body of %d is %s, not %s", show(goal), id, show(got), show(body))
			}
		}
		for range 2 {
			if id, rule := rules.Rule(); id != 0 || rule != nil {
				t.Errorf("%s: %d behind the last", show(goal), id)
			}
		}
	}
	if _, known := base.New().Rules("p", 1, cell.Shape{}); known {
		t.Error("p is known to a base of none")
	}
}

// entered is the body of a rule that was entered with its own head.
func entered(t *testing.T, rule *cell.Rule, head api.Term) api.Term {
	t.Helper()
	store := &cell.Store{}
	_, args := cell.Parts(store.Read(head))
	slots, ok := store.Enter(rule, args)
	if !ok {
		t.Fatalf("%s is not entered with itself", show(head))
	}
	return cell.Written(store.Build(rule.Body, slots))
}
