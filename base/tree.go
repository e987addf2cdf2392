package base

import "math"

// tree has entries, rising by place. What is laid down or taken out makes a new one, which shares with the old one
// all but the way to that place; so the old one stays as it was. nil is the tree of none.
type tree struct {
	entry       *entry
	left, right *tree
	height      int
}

// after gives the first entry behind a place, nil if there is none.
func (t *tree) after(place int) *entry {
	var found *entry
	for t != nil {
		if t.entry.place > place {
			found, t = t.entry, t.left
		} else {
			t = t.right
		}
	}
	return found
}

func (t *tree) with(e *entry) *tree {
	switch {
	case t == nil:
		return grown(nil, e, nil)
	case e.place < t.entry.place:
		return balanced(t.left.with(e), t.entry, t.right)
	}
	return balanced(t.left, t.entry, t.right.with(e))
}

// without is asked of places that are in the tree alone.
func (t *tree) without(place int) *tree {
	switch {
	case place < t.entry.place:
		return balanced(t.left.without(place), t.entry, t.right)
	case place > t.entry.place:
		return balanced(t.left, t.entry, t.right.without(place))
	case t.right == nil:
		return t.left
	}
	next := t.right.after(math.MinInt)
	return balanced(t.left, next, t.right.without(next.place))
}

func (t *tree) tall() int {
	if t == nil {
		return 0
	}
	return t.height
}

func grown(left *tree, e *entry, right *tree) *tree {
	return &tree{e, left, right, max(left.tall(), right.tall()) + 1}
}

// balanced puts together what differs in height by 2 at most, so that it differs by 1 at most everywhere.
func balanced(left *tree, e *entry, right *tree) *tree {
	switch {
	case left.tall() > right.tall()+1:
		return leaningLeft(left, e, right)
	case right.tall() > left.tall()+1:
		return leaningRight(left, e, right)
	}
	return grown(left, e, right)
}

func leaningLeft(left *tree, e *entry, right *tree) *tree {
	if left.left.tall() >= left.right.tall() {
		return grown(left.left, left.entry, grown(left.right, e, right))
	}
	top := left.right
	return grown(grown(left.left, left.entry, top.left), top.entry, grown(top.right, e, right))
}

func leaningRight(left *tree, e *entry, right *tree) *tree {
	if right.right.tall() >= right.left.tall() {
		return grown(grown(left, e, right.left), right.entry, right.right)
	}
	top := right.left
	return grown(grown(left, e, top.left), top.entry, grown(top.right, right.entry, right.right))
}
