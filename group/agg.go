package group

import (
	"cmp"
	"slices"

	"leporello/api"
	"leporello/fixed"
)

// maxRank is the greatest number that a quantile may have.
const maxRank = 100

// agg is an aggregation: a small value of one of the types below, that says
// which one it is.
type agg any

type (
	sum      struct{}
	avg      struct{}
	lowest   struct{}
	highest  struct{}
	count    struct{}
	quantile struct{ rank int }
	topk     struct{ most int }
)

// read tells the aggregation of a name and a number; false, if there is none.
func read(name string, n int) (agg, bool) {
	switch name {
	case "sum":
		return sum{}, true
	case "avg":
		return avg{}, true
	case "min":
		return lowest{}, true
	case "max":
		return highest{}, true
	case "count":
		return count{}, true
	case "quantile":
		return quantile{rank: n}, 0 <= n && n <= maxRank
	case "topk":
		return topk{most: n}, 1 <= n && n <= api.MaxRows
	}
	return nil, false
}

// reckon tells the rows that come of a group.
func reckon(a agg, g group) ([]api.Row, api.Errno) {
	if k, ok := a.(topk); ok {
		return greatest(k.most, g.rows), api.OK
	}
	v, e := number(a, numbers(g.rows))
	if e != api.OK {
		return nil, e
	}
	return []api.Row{{Labels: g.by, V: v}}, api.OK
}

// greatest tells the rows with the greatest numbers, at most so many, of rows
// by labels.
func greatest(most int, l []api.Row) []api.Row {
	falling := slices.Clone(l)
	// Stable, so that of the same numbers those come first whose labels do.
	slices.SortStableFunc(falling, func(x, y api.Row) int { return cmp.Compare(y.V, x.V) })
	return falling[:min(most, len(falling))]
}

// number tells the number that comes of those of a group; there is at least
// one.
func number(a agg, l []int) (int, api.Errno) {
	if _, ok := a.(sum); ok {
		return fixed.Sum(l...)
	}
	if _, ok := a.(avg); ok {
		return fixed.Mean(l...)
	}
	if _, ok := a.(lowest); ok {
		return slices.Min(l), api.OK
	}
	if _, ok := a.(highest); ok {
		return slices.Max(l), api.OK
	}
	if _, ok := a.(count); ok {
		return len(l), api.OK
	}
	if q, ok := a.(quantile); ok {
		// There is one always: read holds the rank against its limits.
		v, _ := fixed.Rank(q.rank, l...)
		return v, api.OK
	}
	return 0, api.ErrArg
}

// numbers tells the numbers of rows.
func numbers(l []api.Row) []int {
	all := make([]int, 0, len(l))
	for _, x := range l {
		all = append(all, x.V)
	}
	return all
}
