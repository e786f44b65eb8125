package parse

import (
	"leporello/api"
	"leporello/store"
	"leporello/window"
)

// reader reads the tokens of a query.
type reader struct {
	left []api.Token // what is not read yet
}

// text reads the next token, if it is of that kind.
func (d *reader) text(kind int) (string, bool) {
	if len(d.left) == 0 || d.left[0].Kind != kind {
		return "", false
	}
	text := d.left[0].Text
	d.left = d.left[1:]
	return text, true
}

// take reads the next token, if it is of that kind and text.
func (d *reader) take(kind int, text string) bool {
	if len(d.left) == 0 || d.left[0].Kind != kind || d.left[0].Text != text {
		return false
	}
	d.left = d.left[1:]
	return true
}

// sign reads the next token, if it is that sign.
func (d *reader) sign(s string) bool { return d.take(api.Sign, s) }

// word reads the next token, if it is that word.
func (d *reader) word(s string) bool { return d.take(api.Word, s) }

// name reads a word, whichever it is.
func (d *reader) name() (string, bool) { return d.text(api.Word) }

// number reads a token of digits, which is of that kind.
func (d *reader) number(kind int) (int, bool) {
	digits, ok := d.text(kind)
	return value(digits), ok
}

// level tells how tightly the next token binds.
func (d *reader) level() int {
	if len(d.left) == 0 || d.left[0].Kind != api.Sign {
		return loose
	}
	return level(d.left[0].Text)
}

// list reads what stands up to a sign that ends it, a comma between two.
func list[T any](d *reader, end string, one func() (T, bool)) ([]T, bool) {
	if d.sign(end) {
		return nil, true
	}
	var all []T
	for {
		x, ok := one()
		if !ok {
			return nil, false
		}
		all = append(all, x)
		if !d.sign(",") {
			return all, d.sign(end)
		}
	}
}

// query reads a whole one.
func (d *reader) query() (api.Query, bool) {
	root, ok := d.expr()
	if !ok {
		return api.Query{}, false
	}
	way, rightWay := d.order()
	most, rightMost := d.rows(limit)
	left, rightLeft := d.rows(offset)
	q := api.Query{Root: root, Order: way, Limit: most, Offset: left}
	return q, rightWay && rightMost && rightLeft
}

// order reads which order is asked for, if one is.
func (d *reader) order() (int, bool) {
	switch {
	case !d.word(order):
		return api.ByLabels, true
	case d.word(asc):
		return api.Rising, true
	case d.word(desc):
		return api.Falling, true
	}
	return 0, false
}

// rows reads a number of rows behind its word; -1, if that is not there.
func (d *reader) rows(word string) (int, bool) {
	if !d.word(word) {
		return -1, true
	}
	n, ok := d.number(api.Number)
	return n, ok && n <= api.MaxRows
}

// expr reads a whole part.
func (d *reader) expr() (api.Node, bool) { return d.chain(compares) }

// chain reads parts with signs between that bind just so tightly.
func (d *reader) chain(tight int) (api.Node, bool) {
	if tight > products {
		return d.unary()
	}
	x, ok := d.chain(tight + 1)
	for ok && d.level() == tight {
		x, ok = d.bin(x, tight)
	}
	return x, ok
}

// bin reads what stands behind its left kid; its sign binds just so tightly.
func (d *reader) bin(left api.Node, tight int) (api.Node, bool) {
	sign, _ := d.text(api.Sign)
	mode, names, ok := d.mode(on, ignoring)
	if !ok {
		return api.Node{}, false
	}
	right, ok := d.chain(tight + 1)
	kids := []api.Node{left, right}
	return api.Node{Op: opBin, Text: sign, Mode: mode, Names: names, Kids: kids}, ok
}

// mode reads which of two words there is, if one is, and the names behind it.
func (d *reader) mode(first, second string) (int, []string, bool) {
	mode := 0
	switch {
	case d.word(first):
		mode = modeFirst
	case d.word(second):
		mode = modeSecond
	default:
		return 0, nil, true
	}
	if !d.sign("(") {
		return 0, nil, false
	}
	names, ok := list(d, ")", d.name)
	return mode, names, ok
}

// unary reads a part that has no sign between its own parts.
func (d *reader) unary() (api.Node, bool) {
	if !d.sign("-") {
		return d.primary()
	}
	kid, ok := d.unary()
	return api.Node{Op: opNeg, Kids: []api.Node{kid}}, ok
}

// primary reads a part that has no sign ahead of it.
func (d *reader) primary() (api.Node, bool) {
	if d.sign("(") {
		return d.closed()
	}
	if n, ok := d.number(api.Number); ok {
		return api.Node{Op: opNum, N: n}, true
	}
	name, named := d.name()
	switch {
	case Agg(name):
		return d.agg(name)
	case window.Fn(name):
		return d.fn(name)
	case reserved(name):
		return api.Node{}, false
	}
	return d.sel(name, named)
}

// closed reads a whole part, and the bracket behind it.
func (d *reader) closed() (api.Node, bool) {
	x, ok := d.expr()
	return x, ok && d.sign(")")
}

// agg reads what stands behind the name of an aggregation.
func (d *reader) agg(name string) (api.Node, bool) {
	mode, names, ok := d.mode(by, without)
	if !ok || !d.sign("(") {
		return api.Node{}, false
	}
	n := 0
	if numbered(name) {
		if n, ok = d.number(api.Number); !ok || !d.sign(",") {
			return api.Node{}, false
		}
	}
	kid, ok := d.closed()
	return api.Node{Op: opAgg, Text: name, N: n, Mode: mode, Names: names, Kids: []api.Node{kid}}, ok
}

// fn reads what stands behind the name of a function.
func (d *reader) fn(name string) (api.Node, bool) {
	if !d.sign("(") {
		return api.Node{}, false
	}
	kid, ok := d.closed()
	return api.Node{Op: opFn, Text: name, Kids: []api.Node{kid}}, ok
}

// sel reads what stands behind a metric, if it is named, or in its place.
func (d *reader) sel(metric string, named bool) (api.Node, bool) {
	ok := named
	var matchers []api.Matcher
	if d.sign("{") {
		matchers, ok = list(d, "}", d.matcher)
	}
	if !ok || !store.Right(matchers...) {
		return api.Node{}, false
	}
	seconds, ok := d.window()
	return api.Node{Op: opSel, Text: metric, N: seconds, Matchers: matchers}, ok
}

// matcher reads one.
func (d *reader) matcher() (api.Matcher, bool) {
	name, named := d.name()
	sign, _ := d.text(api.Sign)
	op, signed := opOf(sign)
	says, quoted := d.text(api.String)
	return api.Matcher{Name: name, Op: op, Value: says}, named && signed && quoted
}

// window reads the seconds of one, if there is one.
func (d *reader) window() (int, bool) {
	if !d.sign("[") {
		return 0, true
	}
	seconds, ok := d.number(api.Span)
	return seconds, ok && d.sign("]")
}
