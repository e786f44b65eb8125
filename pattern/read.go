package pattern

import "strings"

// part is a part of a pattern: a choice, a chain, a times, or an atom of one
// rune: an only, a class, a dot.
type part any

type (
	choice []part // one of these
	chain  []part // these, one behind the other
	only   rune   // this rune
	dot    struct{}
)

// times is a part that may stand there not at all, or more than once.
type times struct {
	what       part
	none, many bool
}

// class is the runes that are in one of its items; in none, if not.
type class struct {
	not   bool
	items []item
}

// item is the runes from its first to its last.
type item struct{ first, last rune }

// marks are the runes that are an atom only behind a backslash.
const marks = "*+?|()[]"

// sign is a rune of a pattern; a bare one has no backslash ahead of it, and
// only such a one may be more than itself.
type sign struct {
	r    rune
	bare bool
}

// reader reads a pattern.
type reader struct {
	left []sign // what is not read yet
}

// read tells the part that a pattern is; false, if it is none.
func read(p string) (part, bool) {
	signs, ok := spell(p)
	if !ok {
		return nil, false
	}
	d := reader{left: signs}
	x, ok := d.choice()
	return x, ok && len(d.left) == 0
}

// spell tells the signs of a pattern; false, if it ends with a backslash that
// has no rune.
func spell(p string) ([]sign, bool) {
	var l []sign
	behind := false
	for _, r := range p {
		if r == '\\' && !behind {
			behind = true
			continue
		}
		l = append(l, sign{r: r, bare: !behind})
		behind = false
	}
	return l, !behind
}

// at tells whether the next sign is this rune, bare.
func (d *reader) at(r rune) bool {
	return len(d.left) > 0 && d.left[0] == sign{r: r, bare: true}
}

// take reads the next sign, if it is this rune, bare.
func (d *reader) take(r rune) bool {
	if !d.at(r) {
		return false
	}
	d.next()
	return true
}

// next reads the next sign.
func (d *reader) next() sign {
	s := d.left[0]
	d.left = d.left[1:]
	return s
}

// choice reads alternatives.
func (d *reader) choice() (part, bool) {
	var all choice
	for {
		l, ok := d.chain()
		if !ok {
			return nil, false
		}
		all = append(all, l)
		if !d.take('|') {
			return all, true
		}
	}
}

// chain reads parts that stand one behind the other.
func (d *reader) chain() (part, bool) {
	var all chain
	for len(d.left) > 0 && !d.at('|') && !d.at(')') {
		x, ok := d.atom()
		if !ok {
			return nil, false
		}
		all = append(all, d.times(x))
	}
	return all, true
}

// times reads how often an atom may stand there.
func (d *reader) times(x part) part {
	switch {
	case d.take('*'):
		return times{what: x, none: true, many: true}
	case d.take('+'):
		return times{what: x, many: true}
	case d.take('?'):
		return times{what: x, none: true}
	}
	return x
}

// atom reads an atom; there is at least one sign.
func (d *reader) atom() (part, bool) {
	switch {
	case d.take('('):
		x, ok := d.choice()
		return x, ok && d.take(')')
	case d.take('['):
		return d.class()
	case d.take('.'):
		return dot{}, true
	}
	s := d.next()
	return only(s.r), !s.bare || !strings.ContainsRune(marks, s.r)
}

// class reads a class from behind its bracket.
func (d *reader) class() (part, bool) {
	c := class{not: d.take('^')}
	for len(d.left) > 0 && !d.at(']') {
		x := d.item()
		if x.first > x.last {
			return nil, false
		}
		c.items = append(c.items, x)
	}
	return c, d.take(']') && len(c.items) > 0
}

// item reads an item of a class; there is at least one sign.
func (d *reader) item() item {
	r := d.next().r
	// A - right ahead of the class's end has no second rune, and is itself.
	if !d.at('-') || len(d.left) < 2 || d.left[1] == (sign{r: ']', bare: true}) {
		return item{first: r, last: r}
	}
	d.next()
	return item{first: r, last: d.next().r}
}
