package parse_test

import (
	"fmt"
	"math/rand"
	"regexp"
	"slices"
	"strconv"
	"strings"
	"testing"

	"leporello/api"
	"leporello/glyph"
	"leporello/parse"
)

// places are places in a list of tokens, a bit each.
type places uint64

// rule tells where what it is of may end, if it begins at one of some places.
type rule func(l []string, from places) places

// token is a rule of one token.
func token(is func(s string) bool) rule {
	return func(l []string, from places) places {
		var to places
		for i, s := range l {
			if from>>i&1 == 1 && is(s) {
				to |= 1 << (i + 1)
			}
		}
		return to
	}
}

// fits is a rule of a token of such a form, but of these.
func fits(form string, but ...string) rule {
	fits := regexp.MustCompile(`^(?:` + form + `)$`)
	known := map[string]bool{} // what was asked: few tokens are asked often
	return token(func(s string) bool {
		is, ok := known[s]
		if !ok {
			is = fits.MatchString(s) && !slices.Contains(but, s)
			known[s] = is
		}
		return is
	})
}

// seq is a rule of rules, one behind the other; or of one of several; opt of
// one, or nothing; many of any number of times.
func seq(rules ...rule) rule {
	return func(l []string, from places) places {
		for _, r := range rules {
			// No rule begins nowhere: so they end, though they go round.
			if from == 0 {
				return 0
			}
			from = r(l, from)
		}
		return from
	}
}

func or(rules ...rule) rule {
	return func(l []string, from places) places {
		var to places
		for _, r := range rules {
			to |= r(l, from)
		}
		return to
	}
}

func opt(r rule) rule { return or(r, seq()) }

func many(r rule) rule {
	return func(l []string, from places) places {
		all := from
		for from != 0 {
			from = r(l, from) &^ all
			all |= from
		}
		return all
	}
}

// grammar is the chapter's, rule by rule.
func grammar() rule {
	var expr, unary rule
	later := func(r *rule) rule { return func(l []string, from places) places { return (*r)(l, from) } }
	word, number, span, text := fits(`[a-z_]+`), fits(`\d+`), fits(`\d+s`), fits(`".*"`)
	words := seq(fits(`\(`), opt(seq(word, many(seq(fits(","), word)))), fits(`\)`))
	chain := func(one rule, sign string) rule {
		return seq(one, many(seq(fits(sign), opt(seq(fits("on|ignoring"), words)), one)))
	}
	modes := opt(seq(fits("by|without"), words))
	agg := or(
		seq(fits("sum|min|max|count|avg"), modes, fits(`\(`), later(&expr), fits(`\)`)),
		seq(fits("topk|quantile"), modes, fits(`\(`), number, fits(","), later(&expr), fits(`\)`)))
	fn := seq(fits("(?:sum|min|max|count|avg|last)_over|increase|rate"), fits(`\(`), later(&expr), fits(`\)`))
	metric := fits(`[a-z_]+`, slices.Concat(never(), aggs(), fns())...)
	matcher := seq(word, fits("=|!=|=~|!~"), text)
	braces := seq(fits("{"), opt(seq(matcher, many(seq(fits(","), matcher)))), fits("}"))
	sel := seq(or(seq(metric, opt(braces)), braces), opt(seq(fits(`\[`), span, fits(`\]`))))
	primary := or(number, seq(fits(`\(`), later(&expr), fits(`\)`)), agg, fn, sel)
	unary = or(seq(fits("-"), later(&unary)), primary)
	expr = chain(chain(chain(later(&unary), `[*/%]`), `[-+]`), "==|!=|<|<=|>|>=")
	return seq(later(&expr), opt(seq(fits("order"), fits("asc|desc"))), opt(seq(fits("limit"), number)), opt(seq(fits("offset"), number)))
}

// lists goes through all lists of at most n of some tokens.
func lists(of []string, n int, yield func(l []string)) {
	var go1 func(l []string)
	go1 = func(l []string) {
		yield(l)
		if len(l) == n {
			return
		}
		for _, s := range of {
			go1(append(l, s))
		}
	}
	go1(make([]string, 0, n))
}

// P801: of all short lists of tokens just those are read that the grammar has;
// P802: and each of these is printed back.
func TestEachShortQuery(t *testing.T) {
	query := grammar()
	for _, c := range []struct {
		tokens string
		n      int
	}{
		{`1 a ( ) { } [ ] , + - * == = =~ "x" 5s on by sum topk rate order asc limit offset`, 3},
		{`1 a ( ) - + <`, 6},
		{`a b + on ignoring ( ) ,`, 6},
		{`1 a ( ) , sum topk rate`, 6},
		{`a sum by ( ) ,`, 7},
		{`a { } = !~ "x" ,`, 6},
		{`a [ 5s ] { }`, 6},
		{`a order desc limit 1 offset`, 7},
	} {
		read, refused := 0, 0
		lists(strings.Fields(c.tokens), c.n, func(l []string) {
			s := strings.Join(l, " ")
			want := query(l, 1)>>len(l)&1 == 1
			q, e := parse.Read(s)
			if want != (e == api.OK) || !want && e != api.ErrForm {
				t.Fatalf("Read(%q): %d; the grammar has it: %v", s, e, want)
			}
			if !want {
				refused++
				return
			}
			read++
			printsBack(t, q)
		})
		if read == 0 || refused == 0 {
			t.Errorf("of %s: %d read, %d refused", c.tokens, read, refused)
		}
	}
}

// maker makes queries by chance, the same ones each time.
type maker struct{ *rand.Rand }

// one tells one of these.
func (m maker) one(of ...string) string { return of[m.Intn(len(of))] }

// names tells some names.
func (m maker) names() []string {
	var l []string
	for range m.Intn(4) {
		l = append(l, m.one("a", "host", "été", "sum", "on", "by", "order", "s", "_1"))
	}
	return l
}

// moded tells a node that has a mode by chance.
func (m maker) moded(n api.Node) api.Node {
	if mode := m.Intn(3); mode > 0 {
		return with(n, mode, m.names()...)
	}
	return n
}

// sel tells one.
func (m maker) sel() api.Node {
	var l []api.Matcher
	for range m.Intn(3) {
		l = append(l, matcher(m.one("host", "metric", "by", "é"), 1+m.Intn(4), m.one("", "a", "a|b", "\"", "\n", "\xff", "x y", "[a-z]*")))
	}
	return sel(m.one("", "cpu", "mem", "s", "é9"), []int{0, 0, 5, 300, 3600, api.MaxT}[m.Intn(6)], l...)
}

// node tells a part of at most that many levels.
func (m maker) node(levels int) api.Node {
	if levels <= 1 {
		if m.Intn(3) == 0 {
			return num([]int{0, 1, 42, api.MaxV}[m.Intn(4)])
		}
		return m.sel()
	}
	switch m.Intn(8) {
	case 0:
		return neg(m.node(levels - 1))
	case 1:
		return fn(m.one(fns()...), m.node(levels-1))
	case 2:
		return m.moded(agg(m.one(aggs()[:5]...), 0, m.node(levels-1)))
	case 3:
		return m.moded(agg(m.one("topk", "quantile"), m.Intn(3), m.node(levels-1)))
	case 4:
		return m.node(1)
	}
	return m.moded(bin(m.one(signs()...), m.node(levels-1), m.node(m.Intn(levels))))
}

// query tells one.
func (m maker) query() api.Query {
	return api.Query{Root: m.node(1 + m.Intn(5)), Order: m.Intn(3), Limit: m.Intn(3) - 1, Offset: []int{-1, 0, api.MaxRows}[m.Intn(3)]}
}

// tight tells how tightly a node's sign binds.
func tight(n api.Node) int {
	switch {
	case n.Op == "bin" && strings.Contains("+-", n.Text):
		return 2
	case n.Op == "bin" && strings.Contains("*/%", n.Text):
		return 3
	case n.Op == "bin":
		return 1
	}
	return 4
}

// spell tells the tokens of a node, in no brackets that need not be there, but
// by chance.
func (m maker) spell(n api.Node) []string {
	switch n.Op {
	case "num":
		digits := strconv.Itoa(n.N)
		return []string{strings.Repeat("0", m.Intn(14-len(digits))/4) + digits}
	case "neg":
		return slices.Concat([]string{"-"}, m.kid(n.Kids[0], 4))
	case "bin":
		return slices.Concat(m.kid(n.Kids[0], tight(n)), []string{n.Text}, spellMode(n, "on", "ignoring"), m.kid(n.Kids[1], tight(n)+1))
	case "agg":
		number := []string{}
		if n.Text == "topk" || n.Text == "quantile" {
			number = []string{strconv.Itoa(n.N), ","}
		}
		return slices.Concat([]string{n.Text}, spellMode(n, "by", "without"), []string{"("}, number, m.kid(n.Kids[0], 0), []string{")"})
	case "fn":
		return slices.Concat([]string{n.Text, "("}, m.kid(n.Kids[0], 0), []string{")"})
	}
	return m.spellSel(n)
}

// kid tells the tokens of a kid that has to bind at least so tightly.
func (m maker) kid(n api.Node, least int) []string {
	l := m.spell(n)
	if tight(n) < least || m.Intn(8) == 0 {
		l = slices.Concat([]string{"("}, l, []string{")"})
	}
	return l
}

// spellMode tells the tokens of a mode and its names.
func spellMode(n api.Node, first, second string) []string {
	if n.Mode == 0 {
		return nil
	}
	l := []string{[]string{first, second}[n.Mode-1], "("}
	for i, name := range n.Names {
		if i > 0 {
			l = append(l, ",")
		}
		l = append(l, name)
	}
	return append(l, ")")
}

// spellSel tells the tokens of a sel.
func (m maker) spellSel(n api.Node) []string {
	var l []string
	if n.Text != "" {
		l = append(l, n.Text)
	}
	if n.Text == "" || len(n.Matchers) > 0 || m.Intn(8) == 0 {
		l = append(l, "{")
		for i, x := range n.Matchers {
			if i > 0 {
				l = append(l, ",")
			}
			l = append(l, x.Name, []string{"=", "!=", "=~", "!~"}[x.Op-1], glyph.Quote(x.Value))
		}
		l = append(l, "}")
	}
	if n.N > 0 || m.Intn(8) == 0 {
		span := strconv.Itoa(n.N) + "s"
		if n.N%60 == 0 && m.Intn(2) == 0 {
			span = strconv.Itoa(n.N/60) + "m"
		}
		l = append(l, "[", span, "]")
	}
	return l
}

// text tells a query's text, with blanks by chance.
func (m maker) text(q api.Query) string {
	l := m.kid(q.Root, 0)
	if q.Order > 0 {
		l = append(l, "order", []string{"asc", "desc"}[q.Order-1])
	}
	if q.Limit >= 0 {
		l = append(l, "limit", strconv.Itoa(q.Limit))
	}
	if q.Offset >= 0 {
		l = append(l, "offset", strconv.Itoa(q.Offset))
	}
	var b strings.Builder
	for i, s := range l {
		apart := i > 0 && (glues(l[i-1]) && glues(s) || strings.ContainsAny(l[i-1], "<>=!") && strings.ContainsAny(s, "=~"))
		if apart || m.Intn(3) == 0 {
			b.WriteString(m.one(" ", "\t", "\n", "  "))
		}
		b.WriteString(s)
	}
	return b.String()
}

// glues tells whether a token would be one with another such one.
func glues(s string) bool { return glyph.Kind([]rune(s)[0]) == 1 || glyph.Kind([]rune(s)[0]) == 2 }

// printed tells what is printed of a node, by the chapter's words.
func printed(n api.Node) string {
	kid := func(i int) string {
		if k := n.Kids[i]; (n.Op == "neg" || n.Op == "bin") && (k.Op == "neg" || k.Op == "bin") {
			return "(" + printed(k) + ")"
		}
		return printed(n.Kids[i])
	}
	names := "(" + strings.Join(n.Names, ",") + ")"
	switch n.Op {
	case "num":
		return fmt.Sprint(n.N)
	case "neg":
		return "-" + kid(0)
	case "bin":
		return kid(0) + " " + n.Text + []string{"", " on" + names, " ignoring" + names}[n.Mode] + " " + kid(1)
	case "agg":
		number := ""
		if n.Text == "topk" || n.Text == "quantile" {
			number = fmt.Sprint(n.N) + ","
		}
		return n.Text + []string{"", " by " + names + " ", " without " + names + " "}[n.Mode] + "(" + number + kid(0) + ")"
	case "fn":
		return n.Text + "(" + kid(0) + ")"
	}
	var l []string
	for _, m := range n.Matchers {
		l = append(l, m.Name+[]string{"=", "!=", "=~", "!~"}[m.Op-1]+glyph.Quote(m.Value))
	}
	s := n.Text
	if l != nil || s == "" {
		s += "{" + strings.Join(l, ",") + "}"
	}
	if n.N != 0 {
		s += fmt.Sprintf("[%ds]", n.N)
	}
	return s
}

// P801, P802: queries of all kinds of parts are read as they were meant,
// however they are written, and printed by the chapter's words.
func TestQueriesByChance(t *testing.T) {
	m := maker{rand.New(rand.NewSource(8))}
	read := 0
	for range 60_000 {
		q := m.query()
		s := m.text(q)
		got, e := parse.Read(s)
		if len(s) > api.MaxText {
			if e != api.ErrArg {
				t.Fatalf("Read(%q): %d", s, e)
			}
			continue
		}
		if e != api.OK || !equal(got, q) {
			t.Fatalf("Read(%q): %+v, %d, not %+v", s, got, e, q)
		}
		if n := parse.Node(got.Root); n != printed(q.Root) {
			t.Fatalf("Node of %q: %q, not %q", s, n, printed(q.Root))
		}
		printsBack(t, got)
		read++
	}
	if read < 50_000 {
		t.Errorf("only %d queries were short enough", read)
	}
}

// P801: no text makes it panic, or answer something beside an error.
func TestSpoiltQueries(t *testing.T) {
	m := maker{rand.New(rand.NewSource(88))}
	for range 60_000 {
		b := []byte(m.text(m.query()))
		for range 1 + m.Intn(2) {
			at := m.Intn(len(b))
			switch m.Intn(3) {
			case 0:
				b = slices.Delete(b, at, at+1)
			case 1:
				b[at] = "(){}[],+-*=<!~\"\\ s5a\xff"[m.Intn(21)]
			case 2:
				b = slices.Insert(b, at, "(){}[],+-*=<!~\"\\ s5a\xff"[m.Intn(21)])
			}
			if len(b) == 0 {
				break
			}
		}
		q, e := parse.Read(string(b))
		switch {
		case e == api.OK:
			printsBack(t, q)
		case e == api.ErrForm && len(b) <= api.MaxText, e == api.ErrArg && len(b) > api.MaxText:
			refuses(t, e, string(b))
		default:
			t.Fatalf("Read(%q): %d", b, e)
		}
	}
}
