package parse

import (
	"strconv"
	"strings"

	"leporello/api"
	"leporello/glyph"
)

// write writes a part.
func write(b *strings.Builder, p part) {
	if x, ok := p.(num); ok {
		b.WriteString(strconv.Itoa(x.N))
	}
	if x, ok := p.(neg); ok {
		x.write(b)
	}
	if x, ok := p.(bin); ok {
		x.write(b)
	}
	if x, ok := p.(agg); ok {
		x.write(b)
	}
	if x, ok := p.(fn); ok {
		b.WriteString(x.Text + "(")
		writeClosed(b, x.Kids)
	}
	if x, ok := p.(sel); ok {
		x.write(b)
	}
}

// write writes a neg.
func (x neg) write(b *strings.Builder) {
	b.WriteByte('-')
	for _, kid := range x.Kids {
		writeKid(b, kid)
	}
}

// write writes a bin.
func (x bin) write(b *strings.Builder) {
	for i, kid := range x.Kids {
		if i > 0 {
			b.WriteString(" " + x.Text)
			if word := modeWord(x.Mode, on, ignoring); word != "" {
				b.WriteString(" " + word + "(" + strings.Join(x.Names, ",") + ")")
			}
			b.WriteByte(' ')
		}
		writeKid(b, kid)
	}
}

// writeKid writes a kid of a neg or a bin.
func writeKid(b *strings.Builder, n api.Node) {
	p := partOf(n)
	if !hasSign(p) {
		write(b, p)
		return
	}
	b.WriteByte('(')
	write(b, p)
	b.WriteByte(')')
}

// hasSign tells whether a part is a neg or a bin.
func hasSign(p part) bool {
	if _, ok := p.(neg); ok {
		return true
	}
	_, ok := p.(bin)
	return ok
}

// write writes an agg.
func (x agg) write(b *strings.Builder) {
	b.WriteString(x.Text)
	if word := modeWord(x.Mode, by, without); word != "" {
		b.WriteString(" " + word + " (" + strings.Join(x.Names, ",") + ") ")
	}
	b.WriteByte('(')
	if numbered(x.Text) {
		b.WriteString(strconv.Itoa(x.N) + ",")
	}
	writeClosed(b, x.Kids)
}

// writeClosed writes kids, and the bracket behind them.
func writeClosed(b *strings.Builder, kids []api.Node) {
	for _, kid := range kids {
		write(b, partOf(kid))
	}
	b.WriteByte(')')
}

// write writes a sel.
func (x sel) write(b *strings.Builder) {
	b.WriteString(x.Text)
	if x.Text == "" || len(x.Matchers) > 0 {
		writeMatchers(b, x.Matchers)
	}
	if x.N > 0 {
		b.WriteString("[" + strconv.Itoa(x.N) + "s]")
	}
}

// writeMatchers writes matchers in braces.
func writeMatchers(b *strings.Builder, l []api.Matcher) {
	b.WriteByte('{')
	for i, m := range l {
		if i > 0 {
			b.WriteByte(',')
		}
		b.WriteString(m.Name + signOf(m.Op) + glyph.Quote(m.Value))
	}
	b.WriteByte('}')
}

// modeWord tells which of two words a mode is; "", if it is neither.
func modeWord(mode int, first, second string) string {
	switch mode {
	case modeFirst:
		return first
	case modeSecond:
		return second
	}
	return ""
}
