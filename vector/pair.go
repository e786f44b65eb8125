package vector

import (
	"leporello/api"
	"leporello/fixed"
	"leporello/label"
)

// keyed is a row and its key.
type keyed struct {
	row api.Row
	key []api.Label
}

// pair is a row, and the two numbers that are reckoned with for it.
type pair struct {
	keyed
	a, b int
}

// keyAll tells rows with their keys.
func keyAll(mode int, names []string, l []api.Row) []keyed {
	var all []keyed
	for _, x := range l {
		all = append(all, keyed{row: x, key: Key(mode, names, x.Labels)})
	}
	return all
}

// text tells a key as a text: no two keys have the same one, because a value
// is gone through rune by rune and quoted, so that none looks like the end of
// its label.
func (x keyed) text() string { return label.Text(x.key) }

// byText tells the number of each row by the text of its key; false, if two
// have the same key.
func byText(l []keyed) (map[string]int, bool) {
	numbers := make(map[string]int, len(l))
	for _, x := range l {
		text := x.text()
		if _, twice := numbers[text]; twice {
			return nil, false
		}
		numbers[text] = x.row.V
	}
	return numbers, true
}

// isOp tells whether an op is one of fixed.Do.
func isOp(op string) bool {
	// Of numbers that are Right, ErrArg says just that it is none.
	_, e := fixed.Do(op, 0, 0)
	return e != api.ErrArg
}

// reckon tells what comes of pairs by an op.
func reckon(op string, l []pair) ([]api.Row, api.Errno) {
	compares := fixed.Compares(op)
	var all []api.Row
	for _, p := range l {
		v, e := fixed.Do(op, p.a, p.b)
		switch {
		case e != api.OK:
			return nil, e
		case !compares:
			all = append(all, api.Row{Labels: p.key, V: v})
		case v == 1:
			all = append(all, clone(p.row))
		}
	}
	// Also where op compares: rows that rise stay as they are.
	return inOrder(all)
}
