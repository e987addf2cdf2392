package base_test

import (
	"runtime"
	"strings"
	"testing"

	"hornbook/api"
	"hornbook/base"
)

// nested is core with around about it, so often.
func nested(n int, core api.Term, around func(t api.Term) api.Term) api.Term {
	t := core
	for range n {
		t = around(t)
	}
	return t
}

// TestDeep: as many parts nested in one another as the document bounds.
func TestDeep(t *testing.T) {
	const n = 1<<16 - 3
	for name, around := range map[string]func(t api.Term) api.Term{
		"and, right":  func(x api.Term) api.Term { return c(",", a("a"), x) },
		"and, left":   func(x api.Term) api.Term { return c(",", x, a("a")) },
		"or, right":   func(x api.Term) api.Term { return c(";", v(1), x) },
		"then, left":  func(x api.Term) api.Term { return c("->", x, v(1)) },
		"other":       func(x api.Term) api.Term { return c("f", x) },
		"a body none": func(x api.Term) api.Term { return c("\\+", x) },
	} {
		u := nested(n, v(1), around)
		want, _ := naiveBody(u)
		if got, err := base.Body(u); err != api.OK || !same(got, want) {
			t.Error(name, "has another body", err)
		}
		x, err := base.Make(c(":-", a("p"), u))
		if err != api.OK {
			t.Fatal(name, err)
		}
		written, err := base.Plain(x)
		if err != api.OK || !same(written, c(":-", x.Head, x.Body)) {
			t.Error(name, "is written otherwise", err)
		}
		_, err = base.Body(nested(n, i(3), around))
		if (err == api.ErrClause) != (want.Name != "f" && want.Name != "\\+") {
			t.Error(name, "with an integer", err)
		}
		deepHead, err := base.Make(c("p", u))
		if err != api.OK {
			t.Fatal(name, err)
		}
		b := base.New()
		list := []api.Clause{x, deepHead, x, deepHead}
		for k, y := range list {
			if id, err := b.Add(y, false); id != k+1 || err != api.OK {
				t.Fatal(name, id, err)
			}
		}
		view, err := b.View(c("p", u))
		if err != api.OK {
			t.Fatal(name, err)
		}
		for k, y := range list {
			if got, err := b.Get(k + 1); err != api.OK || !sameClause(got, y) {
				t.Error(name, "is told otherwise", err)
			}
			b.Remove(k + 1)
		}
		expect(t, view, []int{2, 4}, []api.Clause{deepHead, deepHead})
	}
}

func number(n int) api.Clause { return fact(c("p", i(int64(n)), v(0))) }

// TestManyClauses: each of many is found by its first Arg, and taken out, in any order, in time that does not grow with how many there are.
func TestManyClauses(t *testing.T) {
	const n = 100000
	for way, place := range map[string]func(k int) int{
		"from the front": func(k int) int { return k },
		"from the back":  func(k int) int { return n - 1 - k },
		"mixed":          func(k int) int { return k * 7919 % n },
	} {
		b := base.New()
		for k := range n {
			b.Add(number(k), k%2 == 1)
		}
		for k := range n {
			at := place(k)
			if l, err := b.Look(c("p", i(int64(at)), a("b"))); err != api.OK || len(l) != 1 || l[0] != at+1 {
				t.Fatal(way, at, l, err)
			}
			view, _ := b.View(c("p", v(0), v(1)))
			if _, _, ok := view.Next(); !ok {
				t.Fatal(way, "nothing is left ahead of", at)
			}
			if err := b.Remove(at + 1); err != api.OK {
				t.Fatal(way, at, err)
			}
			if l, err := b.Look(c("p", i(int64(at)), v(1))); err != api.OK || len(l) != 0 {
				t.Fatal(way, at, l, err)
			}
		}
		if len(b.All()) != 0 {
			t.Error(way, len(b.All()))
		}
	}
}

// TestManyOfOneKey: the first Arg lets all through; a view is taken, and the first clause taken out, again and again.
func TestManyOfOneKey(t *testing.T) {
	const n = 100000
	b := base.New()
	for k := range n {
		b.Add(fact(c("q", a("a"), i(int64(k)))), false)
	}
	all, _ := b.View(c("q", v(0), v(1)))
	for k := range n {
		view, _ := b.View(c("q", a("a"), v(0)))
		if id, x, ok := view.Next(); !ok || id != k+1 || x.Head.Args[1].N != int64(k) {
			t.Fatal(k, id, ok)
		}
		b.Remove(k + 1)
		if id, _, ok := all.Next(); !ok || id != k+1 {
			t.Fatal(k, id, ok)
		}
	}
	if _, _, ok := all.Next(); ok || len(b.All()) != 0 {
		t.Error(len(b.All()))
	}
}

// TestLookGoesThroughBothKinds: those with a variable and those with the goal's own first Arg, in their order.
func TestLookGoesThroughBothKinds(t *testing.T) {
	const n = 60000
	b := base.New()
	for k := range n {
		first := []api.Term{a("a"), v(0), i(int64(k)), a("b")}[k%4]
		b.Add(fact(c("r", first)), k%5 == 0)
	}
	list, err := b.Look(c("r", a("a")))
	if err != api.OK || len(list) != n/2 {
		t.Fatal(len(list), err)
	}
	at := 0
	for _, id := range b.All() {
		if (id-1)%4 < 2 {
			if list[at] != id {
				t.Fatal(at, list[at], id)
			}
			at++
		}
	}
}

// inUse is how much memory is in use when all that can be let go is gone.
func inUse() uint64 {
	runtime.GC()
	runtime.GC()
	var m runtime.MemStats
	runtime.ReadMemStats(&m)
	return m.HeapAlloc
}

// TestWhatIsTakenOutIsLetGo: nor does a view that came to its end keep anything.
func TestWhatIsTakenOutIsLetGo(t *testing.T) {
	b := base.New()
	var views []*base.View
	wide := make([]api.Term, api.MaxArity)
	for k := range wide {
		wide[k] = c("g", a(strings.Repeat("x", 10)), i(int64(k)))
	}
	for k := range 100 {
		b.Add(number(k), false)
	}
	before := inUse()
	for k := range 5000 {
		for n := range 3 {
			b.Add(fact(c("p", i(int64(k)), c("f", wide...))), n == 1)
		}
		view, _ := b.View(c("p", i(int64(k)), v(0)))
		for {
			id, _, ok := view.Next()
			if !ok {
				break
			}
			if id > 100 {
				b.Remove(id)
			}
		}
		views = append(views, view)
	}
	if now := inUse(); now > before+4<<20 {
		t.Errorf("%d bytes in use, %d ahead of that", now, before)
	}
	runtime.KeepAlive(views)
	for k := range 200000 {
		id, _ := b.Add(number(k), false)
		b.Remove(id)
	}
	if now := inUse(); now > before+4<<20 {
		t.Errorf("of many first Args %d bytes in use, %d ahead of that", now, before)
	}
	if len(b.All()) != 100 {
		t.Error(len(b.All()))
	}
}
