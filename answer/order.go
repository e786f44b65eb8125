package answer

import (
	"cmp"
	"slices"

	"leporello/api"
	"leporello/label"
)

// Less tells which row comes first.
func Less(order int, a, b api.Row) bool { return compare(order, a, b) < 0 }

// Sort brings rows into order.
func Sort(order int, l ...api.Row) []api.Row {
	var all []api.Row
	for _, x := range l {
		// Without tells labels anew: here all of them, without no name.
		all = append(all, api.Row{Labels: label.Without(x.Labels), V: x.V})
	}
	slices.SortStableFunc(all, func(a, b api.Row) int { return compare(order, a, b) })
	return all
}

// compare tells which of two rows comes first.
func compare(order int, a, b api.Row) int {
	c := 0
	switch order {
	case api.Rising:
		c = cmp.Compare(a.V, b.V)
	case api.Falling:
		c = cmp.Compare(b.V, a.V)
	}
	if c != 0 {
		return c
	}
	return label.Compare(a.Labels, b.Labels)
}
