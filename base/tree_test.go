package base

import (
	"math"
	"slices"
	"testing"
)

// sound says whether heights are right, and differ by 1 at most everywhere: no way to an entry is long then.
func sound(t *tree) bool {
	if t == nil {
		return true
	}
	left, right := t.left.tall(), t.right.tall()
	return t.height == max(left, right)+1 && max(left, right) <= min(left, right)+1 && sound(t.left) && sound(t.right)
}

func placesOf(t *tree) []int {
	var list []int
	for e := t.after(math.MinInt); e != nil; e = t.after(e.place) {
		list = append(list, e.place)
	}
	return list
}

// moment is a tree, and what was in it.
type moment struct {
	tree *tree
	list []int
}

func TestTreesAreSoundAndStayAsTheyWere(t *testing.T) {
	seed := uint64(1)
	below := func(n int) int {
		seed = seed*6364136223846793005 + 1442695040888963407
		return int(seed >> 33 % uint64(n))
	}
	for round := range 40 {
		var moments []moment
		now := moment{}
		for k := 1; k < 400; k++ {
			place := k
			if below(1+round%4) == 1 {
				place = -k
			}
			at, _ := slices.BinarySearch(now.list, place)
			now = moment{now.tree.with(&entry{place: place}), slices.Insert(slices.Clone(now.list), at, place)}
			moments = append(moments, now)
			for below(5) < round%5 && len(now.list) > 0 {
				at := below(len(now.list))
				now = moment{now.tree.without(now.list[at]), slices.Delete(slices.Clone(now.list), at, at+1)}
				moments = append(moments, now)
			}
		}
		for len(now.list) > 0 {
			at := below(len(now.list))
			now = moment{now.tree.without(now.list[at]), slices.Delete(slices.Clone(now.list), at, at+1)}
			moments = append(moments, now)
		}
		for k, m := range moments {
			if !sound(m.tree) || !slices.Equal(placesOf(m.tree), m.list) {
				t.Fatalf("round %d, moment %d: %v, not %v", round, k, placesOf(m.tree), m.list)
			}
		}
	}
}
