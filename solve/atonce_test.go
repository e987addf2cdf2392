package solve_test

import (
	"sync"
	"testing"

	"hornbook/api"
)

// TestAtOnce: searches that only read a base do not get in each other's way, whoever goes on with them.
func TestAtOnce(t *testing.T) {
	b := filled(t, working())
	const n = 8
	got := make([]api.Outcome, n)
	var all sync.WaitGroup
	for k := range n {
		s := search(t, b, "upto(60,L), rev(L,M), rev(M,L), catch(throwing(30),ball,true), \\+ finding(-1)")
		all.Go(func() { got[k] = s.Next(enough) })
	}
	all.Wait()
	for k, o := range got {
		if o.Kind != api.Answer || showOutcome(o) != showOutcome(got[0]) {
			t.Error(k, showOutcome(o))
		}
	}
}
