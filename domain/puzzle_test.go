package domain_test

import (
	"slices"
	"testing"

	"hornbook/api"
)

// queens of a board, one a row: each variable is a column, and no two are one, or as far apart as their rows.
func queens(n int) api.Problem {
	p := problem(alike(n, span(1, int64(n))))
	for i := range n {
		for j := range i {
			apart := int64(i - j)
			p.Constraints = append(p.Constraints, unlike(0, by(1, -1), i, j), unlike(apart, by(1, -1), i, j), unlike(-apart, by(1, -1), i, j))
		}
	}
	return p
}

// latin squares: each number once in each row and each column.
func latin(n int) api.Problem {
	p := problem(alike(n*n, span(1, int64(n))))
	for i := range n {
		var row, column []int
		for j := range n {
			row = append(row, i*n+j)
			column = append(column, j*n+i)
		}
		p.Constraints = append(p.Constraints, differ(row...), differ(column...))
	}
	return p
}

// colours of a graph: those of each two that are joined differ.
func colours(vars, colours int, joined [][2]int) api.Problem {
	p := problem(alike(vars, span(1, int64(colours))))
	for k, x := range joined {
		if k%2 == 0 {
			p.Constraints = append(p.Constraints, differ(x[0], x[1]))
		} else {
			p.Constraints = append(p.Constraints, unlike(0, by(3, -3), x[0], x[1]))
		}
	}
	return p
}

func ring(n int) [][2]int {
	var l [][2]int
	for k := range n {
		l = append(l, [2]int{k, (k + 1) % n})
	}
	return l
}

// petersen is a graph of which the colourings are known.
func petersen() [][2]int {
	var l [][2]int
	for k := range 5 {
		l = append(l, [2]int{k, (k + 1) % 5}, [2]int{k, k + 5}, [2]int{k + 5, (k+2)%5 + 5})
	}
	return l
}

// everyTwo are as many as that, each joined with each.
func everyTwo(n int) [][2]int {
	var l [][2]int
	for k := range n {
		for m := range k {
			l = append(l, [2]int{m, k})
		}
	}
	return l
}

// magic squares of 3 by 3.
func magic() api.Problem {
	p := problem(alike(9, span(1, 9)), differ(0, 1, 2, 3, 4, 5, 6, 7), differ(1, 2, 3, 4, 5, 6, 7, 8), differ(0, 8))
	for _, x := range [][3]int{{0, 1, 2}, {3, 4, 5}, {6, 7, 8}, {0, 3, 6}, {1, 4, 7}, {2, 5, 8}, {0, 4, 8}, {2, 4, 6}} {
		p.Constraints = append(p.Constraints, equal(15, by(1, 1, 1), x[:]...))
	}
	return p
}

// TestCounts: how many solutions there are, where that is known.
func TestCounts(t *testing.T) {
	for _, x := range []struct {
		name string
		p    api.Problem
		want int
	}{
		{"queens 1", queens(1), 1}, {"queens 2", queens(2), 0}, {"queens 3", queens(3), 0}, {"queens 4", queens(4), 2}, {"queens 5", queens(5), 10}, {"queens 6", queens(6), 4}, {"queens 7", queens(7), 40}, {"queens 8", queens(8), 92},
		{"latin 1", latin(1), 1}, {"latin 2", latin(2), 2}, {"latin 3", latin(3), 12}, {"latin 4", latin(4), 576},
		{"ring 5, 2", colours(5, 2, ring(5)), 0}, {"ring 6, 2", colours(6, 2, ring(6)), 2}, {"ring 7, 3", colours(7, 3, ring(7)), 126}, {"ring 8, 3", colours(8, 3, ring(8)), 258},
		{"petersen 2", colours(10, 2, petersen()), 0}, {"petersen 3", colours(10, 3, petersen()), 120}, {"petersen 4", colours(10, 4, petersen()), 12960},
		{"all of 5, 4", colours(5, 4, everyTwo(5)), 0}, {"all of 5, 5", colours(5, 5, everyTwo(5)), 120}, {"all of 4, 6", colours(4, 6, everyTwo(4)), 360}, {"all of 8, 7", colours(8, 7, everyTwo(8)), 0},
		{"magic", magic(), 8},
		{"free", problem(alike(12, span(0, 1))), 4096},
		{"sums", problem(alike(4, span(0, 30)), equal(30, by(1, 1, 1, 1), 0, 1, 2, 3)), 33 * 32 * 31 / 6},
	} {
		got := solved(t, x.p, greatest)
		if len(got) != x.want {
			t.Errorf("%s: %d, not %d", x.name, len(got), x.want)
		}
		areSolutions(t, x.p, got)
	}
}

// areSolutions: are all of a list, each behind the one before it?
func areSolutions(t *testing.T, p api.Problem, l [][]int64) {
	t.Helper()
	for k, x := range l {
		if k > 0 && slices.Compare(l[k-1], x) >= 0 {
			t.Fatalf("%s and then %s of\n%s", showNumbers(l[k-1]), showNumbers(x), showProblem(p))
		}
		isSolution(t, p, x)
	}
}

func isSolution(t *testing.T, p api.Problem, x []int64) {
	t.Helper()
	if len(x) != len(p.Domains) {
		t.Fatalf("%s of\n%s", showNumbers(x), showProblem(p))
	}
	for v, l := range p.Domains {
		if !slices.Contains(l, x[v]) {
			t.Fatalf("X%d: %s of\n%s", v, showNumbers(x), showProblem(p))
		}
	}
	for k, c := range p.Constraints {
		if !naiveHolds(c, x) {
			t.Fatalf("constraint %d: %s of\n%s", k, showNumbers(x), showProblem(p))
		}
	}
}

// TestSendMoreMoney: S E N D + M O R E = M O N E Y, letters as digits; behind them what is carried, and sums of two digits.
func TestSendMoreMoney(t *testing.T) {
	const s, e, n, d, m, o, r, y, carry1, carry2, carry3, sum2, sum3, sum4 = 0, 1, 2, 3, 4, 5, 6, 7, 8, 9, 10, 11, 12, 13
	p := problem(slices.Concat(alike(8, span(0, 9)), alike(3, span(0, 1)), alike(3, span(0, 18))), differ(s, e, n, d, m, o, r, y),
		unlike(0, by(1), s), unlike(0, by(1), m), equal(0, by(1, 1, -1, -10), d, e, y, carry1),
		equal(0, by(1, 1, -1), n, r, sum2), equal(0, by(1, 1, -1, -10), sum2, carry1, e, carry2),
		equal(0, by(1, 1, -1), e, o, sum3), equal(0, by(1, 1, -1, -10), sum3, carry2, n, carry3),
		equal(0, by(1, 1, -1), s, m, sum4), equal(0, by(1, 1, -1, -10), sum4, carry3, o, m))
	if got := showLists(solved(t, p, greatest)); got != "[9 5 6 7 1 0 8 2 1 1 0 14 5 10]" {
		t.Error(got)
	}
	if got := best(t, p, y); got != "9 5 6 7 1 0 8 2 1 1 0 14 5 10" {
		t.Error(got)
	}
}

// TestTriples: squares of which two make a third.
func TestTriples(t *testing.T) {
	var squares []int64
	for k := int64(1); k <= 30; k++ {
		squares = append(squares, k*k)
	}
	p := problem(append(alike(3, span(1, 30)), alike(3, squares)...), times(0, 0, 3), times(1, 1, 4), times(2, 2, 5), equal(0, by(1, 1, -1), 3, 4, 5), atMost(0, by(1, -1), 0, 1))
	want := "3 4 5; 5 12 13; 6 8 10; 7 24 25; 8 15 17; 9 12 15; 10 24 26; 12 16 20; 15 20 25; 18 24 30; 20 21 29"
	var got [][]int64
	for _, x := range solved(t, p, greatest) {
		got = append(got, x[:3])
	}
	if showLists(got) != "["+want+"]" {
		t.Error(showLists(got))
	}
	if got := best(t, p, 1); got[:6] != "3 4 5 " {
		t.Error(got)
	}
}

// TestFactors: what two numbers make a third, and that some have none.
func TestFactors(t *testing.T) {
	for n := int64(2); n <= 100; n++ {
		var want [][]int64
		for k := int64(2); k < n; k++ {
			if n%k == 0 {
				want = append(want, by(k, n/k, n))
			}
		}
		p := problem(on(span(2, 99), span(2, 99), by(n)), times(1, 0, 2))
		if got := solved(t, p, greatest); showLists(got) != showLists(want) {
			t.Error(n, showLists(got))
		}
	}
}

// TestKnapsack: things with a weight and a worth, of which as much is taken as can be carried; the worth of what is left behind is least.
func TestKnapsack(t *testing.T) {
	weights, worths := by(3, 4, 5, 9, 14, 6, 2, 7), by(3, 4, 4, 10, 15, 7, 1, 9)
	const room = 25
	// The sums of the first so many: weights and worths.
	const things = 8
	p := problem(append(alike(things, span(0, 1)), alike(2*things, span(0, 60))...))
	for k := range things {
		if k == 0 {
			p.Constraints = append(p.Constraints, equal(0, by(weights[0], -1), 0, things), equal(worths[0], by(worths[0], 1), 0, 2*things))
			continue
		}
		p.Constraints = append(p.Constraints, equal(0, by(weights[k], 1, -1), k, things+k-1, things+k), equal(worths[k], by(worths[k], -1, 1), k, 2*things+k-1, 2*things+k))
	}
	p.Constraints = append(p.Constraints, atMost(room, by(1), 2*things-1))
	// All choices by themselves.
	var want []int64
	left := int64(greatest)
	for choice := range 1 << things {
		var x []int64
		weight, behind := int64(0), int64(0)
		for k := range things {
			taken := int64(choice >> (things - 1 - k) & 1)
			x = append(x, taken)
			weight += taken * weights[k]
			behind += (1 - taken) * worths[k]
		}
		if weight <= room && behind < left {
			want, left = x, behind
		}
	}
	got := best(t, p, 3*things-1)
	if got[:len(showNumbers(want))] != showNumbers(want) {
		t.Errorf("%s, not %s", got, showNumbers(want))
	}
}

// TestRuler: marks such that no two pairs are as far apart, on a ruler as short as can be.
func TestRuler(t *testing.T) {
	for marks, length := range map[int]int64{3: 3, 4: 6, 5: 11} {
		p := problem(alike(marks, span(0, 20)), equal(0, by(1), 0))
		var apart []int
		for k := range marks {
			for m := range k {
				v := len(p.Domains)
				p.Domains = append(p.Domains, span(1, 20))
				p.Constraints = append(p.Constraints, equal(0, by(1, -1, -1), k, m, v))
				for _, w := range apart {
					p.Constraints = append(p.Constraints, unlike(0, by(1, -1), v, w))
				}
				apart = append(apart, v)
			}
		}
		got := best(t, p, marks-1)
		p.Constraints = append(p.Constraints, equal(length, by(1), marks-1))
		all := solved(t, p, greatest)
		if len(all) == 0 || got != showNumbers(all[0]) {
			t.Error(marks, got, showLists(all))
		}
	}
}

// TestWays: from place to place, as a table says, and not to the same one again.
func TestWays(t *testing.T) {
	next := by(3, 4, 0, 2, 1, 5)
	p := problem(alike(5, span(0, 5)))
	for k := range 4 {
		p.Constraints = append(p.Constraints, pickOf(next, k, k+1))
	}
	if got := showLists(solved(t, p, greatest)); got != "[0 3 2 0 3; 1 4 1 4 1; 2 0 3 2 0; 3 2 0 3 2; 4 1 4 1 4; 5 5 5 5 5]" {
		t.Error(got)
	}
	if got := showLists(solved(t, problem(p.Domains, append(p.Constraints, differ(0, 1, 2))...), greatest)); got != "[0 3 2 0 3; 2 0 3 2 0; 3 2 0 3 2]" {
		t.Error(got)
	}
}
