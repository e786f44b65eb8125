package answer

import (
	"slices"

	"leporello/api"
	"leporello/fixed"
	"leporello/group"
	"leporello/label"
	"leporello/store"
	"leporello/vector"
	"leporello/window"
)

// moment is what was measured, and when it is asked about.
type moment struct {
	store *store.Store
	t     int
}

// eval tells what a part of a query comes to.
func (m moment) eval(n api.Node) (value, api.Errno) {
	p := partOf(n)
	if x, ok := p.(num); ok {
		return number(x.v), api.OK
	}
	if x, ok := p.(sel); ok {
		return rowsOr(m.last(x))
	}
	if x, ok := p.(fn); ok {
		return rowsOr(m.over(x))
	}
	if x, ok := p.(neg); ok {
		return m.neg(x)
	}
	if x, ok := p.(bin); ok {
		return m.bin(x)
	}
	if x, ok := p.(agg); ok {
		return m.agg(x)
	}
	return nil, api.ErrArg
}

// series tells the series that a selector means.
func (m moment) series(x sel) ([]api.Series, api.Errno) {
	all, e := m.store.Select(x.matchers...)
	if e != api.OK || x.metric == "" {
		return all, e
	}
	// The metric is no matcher more: there may be as many as Select takes.
	return slices.DeleteFunc(all, func(y api.Series) bool {
		return label.Get(y.Labels, api.Metric) != x.metric
	}), api.OK
}

// last tells the last numbers of the series that a selector means.
func (m moment) last(x sel) ([]api.Row, api.Errno) {
	all, e := m.series(x)
	if e != api.OK {
		return nil, e
	}
	var l []api.Row
	for _, y := range all {
		if v, ok := window.Last(y.Points, m.t, store.Stale); ok {
			l = append(l, api.Row{Labels: y.Labels, V: v})
		}
	}
	return l, api.OK
}

// over tells a function of the points of each series.
func (m moment) over(x fn) ([]api.Row, api.Errno) {
	all, e := m.series(x.of)
	if e != api.OK {
		return nil, e
	}
	var l []api.Row
	for _, y := range all {
		v, ok, e := window.Do(x.name, window.Of(y.Points, m.t, x.seconds))
		if e != api.OK {
			return nil, e
		}
		if ok {
			l = append(l, api.Row{Labels: label.Without(y.Labels, api.Metric), V: v})
		}
	}
	return vector.Tidy(l...)
}

// neg tells a part with its other sign.
func (m moment) neg(x neg) (value, api.Errno) {
	kid, e := m.eval(x.kid)
	if e != api.OK {
		return nil, e
	}
	if v, ok := kid.(number); ok {
		return numberOr(fixed.Do("-", 0, int(v)))
	}
	return rowsOr(vector.Neg(rowsOf(kid)))
}

// bin reckons with two parts.
func (m moment) bin(x bin) (value, api.Errno) {
	left, e := m.eval(x.left)
	if e != api.OK {
		return nil, e
	}
	right, e := m.eval(x.right)
	if e != api.OK {
		return nil, e
	}
	return x.reckon(left, right)
}

// reckon tells what comes of both.
func (x bin) reckon(left, right value) (value, api.Errno) {
	a, leftNumber := left.(number)
	b, rightNumber := right.(number)
	switch {
	case leftNumber && rightNumber:
		return numberOr(fixed.Do(x.sign, int(a), int(b)))
	case leftNumber:
		return rowsOr(vector.Scale(x.sign, rowsOf(right), int(a), true))
	case rightNumber:
		return rowsOr(vector.Scale(x.sign, rowsOf(left), int(b), false))
	}
	return rowsOr(vector.Match(x.sign, rowsOf(left), rowsOf(right), x.mode, x.names...))
}

// agg puts the rows of a part together.
func (m moment) agg(x agg) (value, api.Errno) {
	kid, e := m.eval(x.kid)
	if e != api.OK {
		return nil, e
	}
	return rowsOr(group.Do(x.name, x.n, x.mode, x.names, rowsOf(kid)))
}
