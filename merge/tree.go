package merge

import (
	"iter"

	"leporello/answer"
	"leporello/api"
)

// leaf is what is left of a list: a value of one of the types below.
type leaf any

type (
	rows []api.Row // at least one
	over struct{}
)

// leafOf tells the leaf of what is left.
func leafOf(l []api.Row) leaf {
	if len(l) == 0 {
		return over{}
	}
	return rows(l)
}

// tree holds leaves against each other, pair by pair, so that behind each step
// only those are held anew that the one before was held against.
type tree struct {
	order  int
	leaves []leaf
	losers []int // by node: the leaf that lost there; at 0: the one that lost nowhere
}

// newTree makes one of lists.
func newTree(order int, l [][]api.Row) *tree {
	n := len(l)
	t := &tree{order: order, losers: make([]int, n)}
	// The nodes below a node are twice it, and the one behind that; the leaves
	// stand behind all nodes.
	winners := make([]int, 2*n)
	for place, x := range l {
		t.leaves = append(t.leaves, leafOf(x))
		winners[n+place] = place
	}
	for node := n - 1; node > 0; node-- {
		winners[node], t.losers[node] = t.hold(winners[2*node], winners[2*node+1])
	}
	if n > 0 {
		t.losers[0] = winners[1]
	}
	return t
}

// heads goes through the rows, each with the place of its list, one by one.
func (t *tree) heads() iter.Seq2[int, api.Row] {
	return func(yield func(int, api.Row) bool) {
		for len(t.leaves) > 0 {
			place := t.losers[0]
			l, ok := t.leaves[place].(rows)
			if !ok || !yield(place, l[0]) {
				return
			}
			t.leaves[place] = leafOf(l[1:])
			t.climb(place)
		}
	}
}

// climb holds the leaf that lost nowhere, and is another one now, against those
// that lost to it.
func (t *tree) climb(place int) {
	for node := (len(t.leaves) + place) / 2; node > 0; node /= 2 {
		place, t.losers[node] = t.hold(place, t.losers[node])
	}
	t.losers[0] = place
}

// hold tells which of two leaves wins, and which loses.
func (t *tree) hold(a, b int) (int, int) {
	if t.ahead(a, b) {
		return a, b
	}
	return b, a
}

// ahead tells whether the head of a leaf goes out ahead of another one's.
func (t *tree) ahead(a, b int) bool {
	x, ok := t.leaves[a].(rows)
	if !ok {
		return false
	}
	y, ok := t.leaves[b].(rows)
	if !ok {
		return true
	}
	// Of heads that are alike, the one of the first list.
	if a < b {
		return !answer.Less(t.order, y[0], x[0])
	}
	return answer.Less(t.order, x[0], y[0])
}
