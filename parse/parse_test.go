package parse_test

import (
	"fmt"
	"math"
	"reflect"
	"slices"
	"strconv"
	"strings"
	"testing"
	"unsafe"

	"leporello/api"
	"leporello/glyph"
	"leporello/lex"
	"leporello/parse"
	"leporello/store"
	"leporello/window"
)

func num(n int) api.Node { return api.Node{Op: "num", N: n} }

func neg(kid api.Node) api.Node { return api.Node{Op: "neg", Kids: []api.Node{kid}} }

func bin(sign string, a, b api.Node) api.Node {
	return api.Node{Op: "bin", Text: sign, Kids: []api.Node{a, b}}
}

func fn(name string, kid api.Node) api.Node {
	return api.Node{Op: "fn", Text: name, Kids: []api.Node{kid}}
}

func agg(name string, n int, kid api.Node) api.Node {
	return api.Node{Op: "agg", Text: name, N: n, Kids: []api.Node{kid}}
}

func sel(metric string, seconds int, m ...api.Matcher) api.Node {
	return api.Node{Op: "sel", Text: metric, N: seconds, Matchers: m}
}

func cpu() api.Node { return sel("cpu", 0) }

// with tells a node that has a mode and names.
func with(n api.Node, mode int, names ...string) api.Node {
	n.Mode, n.Names = mode, names
	return n
}

func matcher(name string, op int, value string) api.Matcher {
	return api.Matcher{Name: name, Op: op, Value: value}
}

// plain tells a query of a part alone.
func plain(n api.Node) api.Query { return api.Query{Root: n, Limit: -1, Offset: -1} }

// alike tells whether nodes are the same in all; lists that are nil and empty
// are one.
func alike(a, b api.Node) bool {
	return a.Op == b.Op && a.Text == b.Text && a.N == b.N && a.Mode == b.Mode && slices.Equal(a.Names, b.Names) && slices.Equal(a.Matchers, b.Matchers) && slices.EqualFunc(a.Kids, b.Kids, alike)
}

// equal tells whether queries are.
func equal(a, b api.Query) bool {
	return alike(a.Root, b.Root) && a.Order == b.Order && a.Limit == b.Limit && a.Offset == b.Offset
}

// read reads a text that must be a query.
func read(t *testing.T, s string) api.Query {
	t.Helper()
	q, e := parse.Read(s)
	if e != api.OK {
		t.Fatalf("Read(%q): %d", s, e)
	}
	return q
}

// reads holds that a text is just this query, and what is printed of it.
func reads(t *testing.T, s string, want api.Query, printed string) {
	t.Helper()
	got, e := parse.Read(s)
	if e != api.OK || !equal(got, want) {
		t.Errorf("Read(%q): %+v, %d, not %+v", s, got, e, want)
		return
	}
	if p := parse.Print(got); p != printed {
		t.Errorf("Print of %q: %q, not %q", s, p, printed)
	}
	printsBack(t, got)
}

// printsBack holds that Read of Print is the same, if it is not too long, and
// is printed the same again.
func printsBack(t *testing.T, q api.Query) {
	t.Helper()
	s := parse.Print(q)
	if !strings.HasPrefix(s, parse.Node(q.Root)) {
		t.Fatalf("Print: %q, of %q", s, parse.Node(q.Root))
	}
	again, e := parse.Read(s)
	if len(s) > api.MaxText {
		if e != api.ErrArg {
			t.Fatalf("Read(%q): %d", s, e)
		}
		return
	}
	if e != api.OK || !equal(again, q) || !parse.Same(again.Root, q.Root) {
		t.Fatalf("Read(%q): %+v, %d, not %+v", s, again, e, q)
	}
	if twice := parse.Print(again); twice != s {
		t.Fatalf("Print: %q, not %q", twice, s)
	}
}

// refuses holds that texts are not read, and that nothing stands beside that.
func refuses(t *testing.T, want api.Errno, texts ...string) {
	t.Helper()
	for _, s := range texts {
		if q, e := parse.Read(s); e != want || !reflect.DeepEqual(q, api.Query{}) {
			t.Errorf("Read(%q): %+v, %d, not %d", s, q, e, want)
		}
	}
}

// aggs are all aggregations, fns all functions, never all words that are never
// a metric, signs all that a bin may have.
func aggs() []string  { return strings.Fields("sum min max count avg topk quantile") }
func never() []string { return strings.Fields("order limit offset asc desc on ignoring by without") }
func signs() []string { return strings.Fields("+ - * / % == != < <= > >=") }
func fns() []string {
	return strings.Fields("sum_over min_over max_over count_over avg_over last_over increase rate")
}

// P801, P802: the chapter's example, and one that has all kinds.
func TestReadAndPrint(t *testing.T) {
	reads(t, "1+2*-3", plain(bin("+", num(1), bin("*", num(2), neg(num(3))))), "1 + (2 * (-3))")
	kid := fn("rate", sel("cpu", 7200, matcher("host", api.Like, "a|b"), matcher("_z", api.IsNot, "\n")))
	root := with(bin("/", with(agg("topk", 3, kid), 1, "host"), neg(num(7))), 1)
	reads(t, `topk by(host)(3,rate(cpu{host=~"a|b",_z!="\n"}[2h]))/on()-007 order desc limit 10 offset 05`,
		api.Query{Root: root, Order: api.Falling, Limit: 10, Offset: 5},
		`topk by (host) (3,rate(cpu{host=~"a|b",_z!="\n"}[7200s])) / on() (-7) order desc limit 10 offset 5`)
}

// P801: blanks between tokens say nothing.
func TestBlanks(t *testing.T) {
	reads(t, " \tcpu\n", plain(cpu()), "cpu")
	reads(t, "sum\nby\t( a , b )\n( cpu { x = \"y\" } [ 5m ] )  order  asc", api.Query{Root: with(agg("sum", 0, sel("cpu", 300, matcher("x", api.Is, "y"))), 1, "a", "b"), Order: api.Rising, Limit: -1, Offset: -1}, `sum by (a,b) (cpu{x="y"}[300s]) order asc`)
	reads(t, "a<on(b)c", plain(with(bin("<", sel("a", 0), sel("c", 0)), 1, "b")), "a < on(b) c")
	reads(t, "a< -1", plain(bin("<", sel("a", 0), neg(num(1)))), "a < (-1)")
	refuses(t, api.ErrForm, "a < = 1", "a = = 1", "a ! = 1", `a{x = ~ "y"}`, `a{x ! ~ "y"}`, "top k(1,a)", "cpu[5 m]", "sum_ over(cpu[5m])", "cpu orderasc", "cpu order asclimit 1")
}

// P801: lex's error, whatever else is wrong; ErrForm of what is no query.
func TestReadOfWrongTexts(t *testing.T) {
	long := strings.Repeat(" ", api.MaxText)
	refuses(t, api.ErrArg, "1"+long, long+"(", long+"?", strings.Repeat("1+", api.MaxText/2)+"1", "cpu"+long, strings.Repeat("\xff", api.MaxText+1))
	reads(t, "1"+long[1:], plain(num(1)), "1")
	reads(t, long[1:]+"1", plain(num(1)), "1")
	refuses(t, api.ErrForm, "", " ", "\n\t ", long, "?", "\xff", "1 + ?", "cpu{x=\"y}", "cpu[5x]", "5m5", strings.Repeat("a", api.MaxName+1), "1000000000001", "1.5", "cpu;", "'a'", "a && b")
}

// P801
func TestNum(t *testing.T) {
	for _, c := range []struct {
		s string
		n int
	}{{"0", 0}, {"000", 0}, {"7", 7}, {"007", 7}, {"10", 10}, {"1234567890", 1234567890}, {"1000000000000", api.MaxV}, {"0999999999999", api.MaxV - 1}} {
		want := strconv.Itoa(c.n)
		reads(t, c.s, plain(num(c.n)), want)
		reads(t, "("+c.s+")", plain(num(c.n)), want)
		reads(t, "-"+c.s, plain(neg(num(c.n))), "-"+want)
		reads(t, "topk("+c.s+",a)", plain(agg("topk", c.n, sel("a", 0))), "topk("+want+",a)")
	}
	refuses(t, api.ErrForm, "1 2", "1 a", "a 1", "5m", "1 5m", `"1"`, "1[5m]", `1{a="b"}`, "1()", "1(2)", "(1)(2)", "(1)[5m]", "+1", "1+", "1 + + 1", "1,", ",1", "1,2", "[5m]", "[1]", "=", "1 = 1", "1 =~ 1", "1 !~ 1")
}

// P801
func TestBrackets(t *testing.T) {
	reads(t, "((cpu))", plain(cpu()), "cpu")
	reads(t, "(1+2)*3", plain(bin("*", bin("+", num(1), num(2)), num(3))), "(1 + 2) * 3")
	reads(t, "1-(2-3)", plain(bin("-", num(1), bin("-", num(2), num(3)))), "1 - (2 - 3)")
	reads(t, "(((1)))+((2))", plain(bin("+", num(1), num(2))), "1 + 2")
	reads(t, "(a)==on(x)((b))", plain(with(bin("==", sel("a", 0), sel("b", 0)), 1, "x")), "a == on(x) b")
	reads(t, "rate((cpu[5m]))", plain(fn("rate", sel("cpu", 300))), "rate(cpu[300s])")
	reads(t, "topk(2,(a))", plain(agg("topk", 2, sel("a", 0))), "topk(2,a)")
	many := strings.Repeat("(", 299) + "1" + strings.Repeat(")", 299) // no brackets are nodes
	reads(t, many, plain(num(1)), "1")
	refuses(t, api.ErrForm, "(", ")", "()", "(()", "())", "(1", "1)", "((1)", "(1))", ")1(", "(1 order asc)", "(1 limit 1)", "(1 offset 1)", "(1) 2", "(1,2)", "("+many, many+")", strings.Repeat("(", 600), strings.Repeat(")", 600), "[1]", "{1}")
}

// P801
func TestNeg(t *testing.T) {
	reads(t, "-1", plain(neg(num(1))), "-1")
	reads(t, "--1", plain(neg(neg(num(1)))), "-(-1)")
	reads(t, "- - -cpu[5s]", plain(neg(neg(neg(sel("cpu", 5))))), "-(-(-cpu[5s]))")
	reads(t, "-(1)", plain(neg(num(1))), "-1")
	reads(t, "-(a+b)", plain(neg(bin("+", sel("a", 0), sel("b", 0)))), "-(a + b)")
	reads(t, "-a+b", plain(bin("+", neg(sel("a", 0)), sel("b", 0))), "(-a) + b")
	reads(t, "-a*b", plain(bin("*", neg(sel("a", 0)), sel("b", 0))), "(-a) * b")
	reads(t, "1--1", plain(bin("-", num(1), neg(num(1)))), "1 - (-1)")
	reads(t, "1---1", plain(bin("-", num(1), neg(neg(num(1))))), "1 - (-(-1))")
	reads(t, `-sum(a)`, plain(neg(agg("sum", 0, sel("a", 0)))), "-sum(a)")
	reads(t, `-{x="y"}`, plain(neg(sel("", 0, matcher("x", api.Is, "y")))), `-{x="y"}`)
	reads(t, "-rate(a[1s])", plain(neg(fn("rate", sel("a", 1)))), "-rate(a[1s])")
	reads(t, "sum(-a)", plain(agg("sum", 0, neg(sel("a", 0)))), "sum(-a)")
	refuses(t, api.ErrForm, "-", "--", "1-", "-+1", "+-1", "*-1", "-()", "- order asc", "-on(a) b", "--on() b")
}

// bySplits tells the part of kids with signs between: the last of the signs
// that bind least is the one of all.
func bySplits(kids []api.Node, between []string) api.Node {
	for _, level := range []string{"== != < <= > >=", "+ -", "* / %"} {
		for i := len(between) - 1; i >= 0; i-- {
			if slices.Contains(strings.Fields(level), between[i]) {
				return bin(between[i], bySplits(kids[:i+1], between[:i]), bySplits(kids[i+1:], between[i+1:]))
			}
		}
	}
	return kids[0]
}

// P801: chains of all signs, put together from the left.
func TestChains(t *testing.T) {
	kids := []api.Node{num(1), sel("a", 0), neg(num(3)), neg(neg(cpu()))}
	texts := []string{"1", "a", "-3", "--cpu"}
	for _, x := range signs() {
		want := bySplits(kids[:2], []string{x})
		reads(t, texts[0]+" "+x+" "+texts[1], plain(want), "1 "+x+" a")
		for _, y := range signs() {
			reads(t, "1"+x+"a"+y+"-3", plain(bySplits(kids[:3], []string{x, y})), parse.Node(bySplits(kids[:3], []string{x, y})))
			refuses(t, api.ErrForm, "1"+x, y+"1"+x+" *", "1"+x+"* a", "a "+x+" "+y+" ")
			if y != "-" {
				refuses(t, api.ErrForm, "1"+x+" "+y+"a", y+"1", y+"1"+x+"2")
			}
			for _, z := range signs() {
				want := bySplits(kids, []string{x, y, z})
				if got := read(t, "1"+x+"a"+y+"-3"+z+"--cpu"); !equal(got, plain(want)) {
					t.Errorf("of %s %s %s: %+v, not %+v", x, y, z, got, want)
				}
				printsBack(t, plain(want))
			}
		}
	}
	reads(t, "1-2-3", plain(bin("-", bin("-", num(1), num(2)), num(3))), "(1 - 2) - 3")
	reads(t, "8/4%3*2", plain(bin("*", bin("%", bin("/", num(8), num(4)), num(3)), num(2))), "((8 / 4) % 3) * 2")
	reads(t, "a<b<c", plain(bin("<", bin("<", sel("a", 0), sel("b", 0)), sel("c", 0))), "(a < b) < c")
	reads(t, "a==b+c*d", plain(bin("==", sel("a", 0), bin("+", sel("b", 0), bin("*", sel("c", 0), sel("d", 0))))), "a == (b + (c * d))")
}

// P801, P802
func TestMatching(t *testing.T) {
	a, b, c := sel("a", 0), sel("b", 0), sel("c", 0)
	for _, x := range signs() {
		one := bin(x, a, b)
		reads(t, "a"+x+"on()b", plain(with(one, 1)), "a "+x+" on() b")
		reads(t, "a"+x+"ignoring ( ) b", plain(with(one, 2)), "a "+x+" ignoring() b")
		reads(t, "a"+x+"on(x)b", plain(with(one, 1, "x")), "a "+x+" on(x) b")
		reads(t, "a"+x+"ignoring(x , été_9,x)b", plain(with(one, 2, "x", "été_9", "x")), "a "+x+" ignoring(x,été_9,x) b")
		reads(t, "a"+x+"on(x)-b", plain(with(bin(x, a, neg(b)), 1, "x")), "a "+x+" on(x) (-b)")
		reads(t, "a"+x+"on(x)(b)", plain(with(one, 1, "x")), "a "+x+" on(x) b")
	}
	// Any word may be a name there.
	for _, w := range slices.Concat(never(), aggs(), fns()) {
		reads(t, "a+on("+w+","+w+")b", plain(with(bin("+", a, b), 1, w, w)), "a + on("+w+","+w+") b")
	}
	reads(t, "a+on(x)b+ignoring()c", plain(with(bin("+", with(bin("+", a, b), 1, "x"), c), 2)), "(a + on(x) b) + ignoring() c")
	reads(t, "a+on(x)b*on(y)c", plain(with(bin("+", a, with(bin("*", b, c), 1, "y")), 1, "x")), "a + on(x) (b * on(y) c)")
	reads(t, "a==on(x)b-on(y)c", plain(with(bin("==", a, with(bin("-", b, c), 1, "y")), 1, "x")), "a == on(x) (b - on(y) c)")
	reads(t, "1+on(x)2", plain(with(bin("+", num(1), num(2)), 1, "x")), "1 + on(x) 2") // which kinds may have it is not asked here
	refuses(t, api.ErrForm, "a+on", "a+on b", "a+on(", "a+on()", "a+on(x)", "a+on(x b", "a+on(x)+b", "a+on(,)b", "a+on(x,)b", "a+on(,x)b", "a+on(x y)b", "a+on(x,,y)b", "a+on(1)b", `a+on("x")b`, "a+on(5m)b", "a+on(x}b", "a+on{x}b", "a+on(x)on(y)b", "a+on(x)ignoring(y)b", "a+by(x)b", "a+without(x)b", "a+(on(x)b)", "a on(x) b", "a on(x)+b", "on(x)a+b", "-on(x)a", "a+ON(x)b", "a+on((x))b", "on(x)")
}

// P801, P802
func TestAgg(t *testing.T) {
	for _, name := range aggs() {
		n, said := 0, ""
		if name == "topk" || name == "quantile" {
			n, said = 12, "12,"
		}
		one := agg(name, n, cpu())
		reads(t, name+"("+said+"cpu)", plain(one), name+"("+said+"cpu)")
		reads(t, name+" by ( ) ( "+said+" cpu ) ", plain(with(one, 1)), name+" by () ("+said+"cpu)")
		reads(t, name+" without()("+said+"cpu)", plain(with(one, 2)), name+" without () ("+said+"cpu)")
		reads(t, name+" by(host)("+said+"cpu)", plain(with(one, 1, "host")), name+" by (host) ("+said+"cpu)")
		reads(t, name+"\nwithout(host,é , host)("+said+"cpu)", plain(with(one, 2, "host", "é", "host")), name+" without (host,é,host) ("+said+"cpu)")
		reads(t, name+"("+said+"1)", plain(agg(name, n, num(1))), name+"("+said+"1)") // no kinds are asked
		reads(t, name+"("+said+"1+2)", plain(agg(name, n, bin("+", num(1), num(2)))), name+"("+said+"1 + 2)")
		reads(t, name+"("+said+"-cpu)", plain(agg(name, n, neg(cpu()))), name+"("+said+"-cpu)")
		reads(t, name+"("+said+name+"("+said+"cpu[5s]))*2", plain(bin("*", agg(name, n, agg(name, n, sel("cpu", 5))), num(2))), name+"("+said+name+"("+said+"cpu[5s])) * 2")
		for _, w := range slices.Concat(never(), aggs(), fns()) {
			reads(t, name+" by("+w+")("+said+"cpu)", plain(with(one, 1, w)), name+" by ("+w+") ("+said+"cpu)")
		}
		refuses(t, api.ErrForm,
			name, name+" cpu", name+"()", name+"("+said+")", name+"("+said+"cpu", name+"("+said+"cpu,)", name+"(,cpu)", name+"("+said+"cpu,cpu)", name+"("+said+"cpu,1)", name+"("+said+"cpu))",
			name+" by", name+" by ("+said+"cpu)", name+" by cpu", name+" by()", name+" by host ("+said+"cpu)", name+" by(host,)("+said+"cpu)", name+" by(,host)("+said+"cpu)", name+" by(1)("+said+"cpu)", name+` by("host")(`+said+"cpu)", name+" by(host", name+" by(a b)("+said+"cpu)",
			name+"("+said+"cpu) by (host)", name+" by(a) without(b)("+said+"cpu)", name+" on(a)("+said+"cpu)", name+" ignoring(a)("+said+"cpu)", name+"{"+said+"cpu}", name+"("+said+"cpu)[5m]", name+"("+said+`cpu){a="b"}`, name+"[5m]", name+`{a="b"}`, name+" + 1", "1 + "+name, "-"+name, "rate("+name+")", name+"("+said+"cpu order asc)", name+" order asc", name+" by(a)("+said+")")
		if said == "" {
			refuses(t, api.ErrForm, name+"(3,cpu)", name+"(0,cpu)", name+" by(a)(3,cpu)", name+"(3,4)", name+"(3,)", name+"(3 cpu)")
		} else {
			reads(t, name+"(0,cpu)", plain(agg(name, 0, cpu())), name+"(0,cpu)")
			reads(t, name+"(1000000000000,cpu)", plain(agg(name, api.MaxV, cpu())), name+"(1000000000000,cpu)")
			refuses(t, api.ErrForm, name+"(cpu)", name+" by(a)(cpu)", name+"(3)", name+"(3 cpu)", name+"(3;cpu)", name+"(-3,cpu)", name+"((3),cpu)", name+"(3+1,cpu)", name+"(5m,cpu)", name+`("3",cpu)`, name+"(3,4,cpu)", name+"(cpu,3)", name+"(3)(cpu)", name+"(,cpu)", name+"(a,cpu)", name+"(3,cpu", name+"(3,,cpu)")
		}
	}
}

// P801, P802
func TestFn(t *testing.T) {
	for _, name := range fns() {
		if !window.Fn(name) {
			t.Errorf("%s is none", name)
		}
		reads(t, name+"(cpu[5m])", plain(fn(name, sel("cpu", 300))), name+"(cpu[300s])")
		reads(t, name+" ( 1 ) ", plain(fn(name, num(1))), name+"(1)")
		reads(t, name+"(1+2)", plain(fn(name, bin("+", num(1), num(2)))), name+"(1 + 2)")
		reads(t, name+"(-cpu)", plain(fn(name, neg(cpu()))), name+"(-cpu)")
		reads(t, name+"("+name+"({}))", plain(fn(name, fn(name, sel("", 0)))), name+"("+name+"({}))")
		refuses(t, api.ErrForm, name, name+"()", name+" cpu", name+"(cpu", name+"cpu)", name+"(3,cpu)", name+"(cpu,cpu)", name+"(cpu,)", name+" by(a)(cpu)", name+" without(a)(cpu)", name+" on(a)(cpu)", name+"[5m]", name+`{a="b"}`, name+"{}", name+"(cpu)[5m]", name+"(cpu){}", name+"+1", "1+"+name, "sum("+name+")", name+" order asc", name+"((cpu)")
	}
	// Near to a function, but a metric.
	for _, name := range []string{"Rate", "rates", "sum_ove", "sum_overs", "sumover", "stddev_over", "delta", "_rate"} {
		reads(t, name, plain(sel(name, 0)), name)
		refuses(t, api.ErrForm, name+"(cpu[5m])")
	}
}

// P801, P802
func TestSel(t *testing.T) {
	is := func(v string) api.Matcher { return matcher("a", api.Is, v) }
	for _, metric := range []string{"cpu", "_", "é", "a1", "s", "m5", "h", "Sum", "sums", "topk_", "orders", "Order", "ON", "metric", strings.Repeat("é", api.MaxName)} {
		reads(t, metric, plain(sel(metric, 0)), metric)
		reads(t, metric+"{}", plain(sel(metric, 0)), metric)
		reads(t, metric+` { a = "b" } `, plain(sel(metric, 0, is("b"))), metric+`{a="b"}`)
		reads(t, metric+`{a="b"}[1m]`, plain(sel(metric, 60, is("b"))), metric+`{a="b"}[60s]`)
		reads(t, metric+"[ 2h ]", plain(sel(metric, 7200)), metric+"[7200s]")
		reads(t, metric+"{}[5s]", plain(sel(metric, 5)), metric+"[5s]")
	}
	reads(t, "{}", plain(sel("", 0)), "{}")
	reads(t, "{}[5s]", plain(sel("", 5)), "{}[5s]")
	reads(t, `{a="b"}[5s]`, plain(sel("", 5, is("b"))), `{a="b"}[5s]`)
	reads(t, `{a="b",a!="c",b=~"c|d",c!~"e*"}`, plain(sel("", 0, is("b"), matcher("a", api.IsNot, "c"), matcher("b", api.Like, "c|d"), matcher("c", api.NotLike, "e*"))), `{a="b",a!="c",b=~"c|d",c!~"e*"}`)
	reads(t, `cpu{a="b",a="b"}`, plain(sel("cpu", 0, is("b"), is("b"))), `cpu{a="b",a="b"}`)
	reads(t, `cpu{metric="mem"}`, plain(sel("cpu", 0, matcher("metric", api.Is, "mem"))), `cpu{metric="mem"}`)
	for _, v := range []string{"", "\"", `\`, "\n", "\xff", "\xc3é", " ", "a b", "{}[],", "=~", "5m", "order", strings.Repeat("v", 400), "("} {
		reads(t, "cpu{a="+glyph.Quote(v)+"}", plain(sel("cpu", 0, is(v))), "cpu{a="+glyph.Quote(v)+"}")
		reads(t, "{a!="+glyph.Quote(v)+"}", plain(sel("", 0, matcher("a", api.IsNot, v))), "{a!="+glyph.Quote(v)+"}")
	}
	// Any word may be a name there.
	for _, w := range slices.Concat(never(), aggs(), fns()) {
		reads(t, "cpu{"+w+`=~"x"}`, plain(sel("cpu", 0, matcher(w, api.Like, "x"))), "cpu{"+w+`=~"x"}`)
	}
	refuses(t, api.ErrForm,
		"{", "}", "{}{}", "cpu{}{}", "cpu{", "cpu}", "cpu{a}", "cpu{a=}", `cpu{="b"}`, `cpu{"b"}`, `cpu{a"b"}`, `cpu{a="b"`, `cpu{a="b",}`, `cpu{,a="b"}`, "cpu{,}", `cpu{a="b" c="d"}`, `cpu{a="b",,c="d"}`, `cpu{a="b"]`,
		`cpu{a=="b"}`, `cpu{a<"b"}`, `cpu{a>="b"}`, `cpu{a+"b"}`, `cpu{a,"b"}`, "cpu{a=b}", "cpu{a=1}", "cpu{a=5m}", `cpu{1="b"}`, `cpu{"a"="b"}`, `cpu{a="b""c"}`, `cpu{a="b"="c"}`, `cpu(a="b")`,
		"cpu[", "cpu]", "cpu[]", "cpu[5]", "cpu[m]", "cpu[5m", "cpu[5m][5m]", `cpu["5m"]`, "cpu[-5m]", "cpu[(5m)]", "cpu[5m,5m]", "cpu[5m}", `cpu[5m]{a="b"}`, "cpu{}[]", "cpu[1000000001s]",
		"cpu mem", "cpu 5", `cpu "x"`, `"x"`, "cpu 5m", "cpu(1)", "cpu()", "cpu (mem)", "cpu by (a)", "cpu.x")
}

// P801: of a window of no seconds N is as of none.
func TestWindows(t *testing.T) {
	for _, c := range []struct {
		span string
		n    int
	}{{"0s", 0}, {"0m", 0}, {"0h", 0}, {"000s", 0}, {"1s", 1}, {"1m", 60}, {"1h", 3600}, {"90m", 5400}, {"05m", 300}, {"277777h", 999997200}, {"1000000000s", api.MaxT}} {
		printed := "[" + strconv.Itoa(c.n) + "s]"
		if c.n == 0 {
			printed = ""
		}
		reads(t, "cpu["+c.span+"]", plain(sel("cpu", c.n)), "cpu"+printed)
		reads(t, "{}["+c.span+"]", plain(sel("", c.n)), "{}"+printed)
	}
}

// P801: a word that is never a metric, in each place of a primary.
func TestWordsThatAreNoMetric(t *testing.T) {
	for _, w := range slices.Concat(never(), aggs(), fns()) {
		refuses(t, api.ErrForm, w, "("+w+")", "-"+w, "1+"+w, w+"+1", "1<"+w, "sum("+w+")", "rate("+w+")", w+"[5m]", w+"{}", w+`{a="b"}`, w+" limit 1", "topk(1,"+w+")", "a*on(x)"+w)
		for _, near := range []string{w + "_", "_" + w, strings.ToUpper(w), w + "1", w[:len(w)-1], w + "é"} {
			if !slices.Contains(slices.Concat(never(), aggs(), fns()), near) {
				reads(t, near, plain(sel(near, 0)), near)
			}
		}
	}
}

// matchers tells n of them as a text.
func matchers(n int) string {
	var l []string
	for i := range n {
		l = append(l, "l"+strconv.Itoa(i)+`=~"."`)
	}
	return "{" + strings.Join(l, ",") + "}"
}

// P801: matchers that are not store.Right.
func TestWrongMatchers(t *testing.T) {
	if q := read(t, matchers(10)+"+cpu"+matchers(10)); len(q.Root.Kids) != 2 || len(q.Root.Kids[0].Matchers) != 10 || !store.Right(q.Root.Kids[1].Matchers...) {
		t.Errorf("of 20 matchers: %+v", q)
	}
	refuses(t, api.ErrForm, matchers(11), "cpu"+matchers(11), matchers(12), "1+sum(cpu"+matchers(11)+"[5m])", "cpu"+matchers(30))
	for _, p := range []string{"", "a", "a|", "(a|b)*", "[a-z]+", strings.Repeat("é", api.MaxRegex), `\(`, "\xff"} {
		reads(t, "cpu{a=~"+glyph.Quote(p)+"}", plain(sel("cpu", 0, matcher("a", api.Like, p))), "cpu{a=~"+glyph.Quote(p)+"}")
		reads(t, "cpu{a!~"+glyph.Quote(p)+"}", plain(sel("cpu", 0, matcher("a", api.NotLike, p))), "cpu{a!~"+glyph.Quote(p)+"}")
	}
	for _, p := range []string{"(", ")", "*", "a**", "[", "[]", "[b-a]", `\`, strings.Repeat("a", api.MaxRegex+1), strings.Repeat("é", api.MaxRegex+1)} {
		q := glyph.Quote(p)
		refuses(t, api.ErrForm, "cpu{a=~"+q+"}", "cpu{a!~"+q+"}", "{a=~"+q+"}", `cpu{a="b",c!~`+q+"}", "cpu{c!~"+q+`,a="b"}[5m]`, "sum(rate(cpu{a=~"+q+"}[5m]))+1")
		reads(t, "cpu{a="+q+"}", plain(sel("cpu", 0, matcher("a", api.Is, p))), "cpu{a="+q+"}")
		reads(t, "cpu{a!="+q+"}", plain(sel("cpu", 0, matcher("a", api.IsNot, p))), "cpu{a!="+q+"}")
	}
}

// nodes tells how many nodes a part has.
func nodes(n api.Node) int {
	all := 1
	for _, kid := range n.Kids {
		all += nodes(kid)
	}
	return all
}

// P801: 200 nodes, and one more.
func TestNodes(t *testing.T) {
	chain := strings.Repeat("1+", 99) + "1" // 199 nodes
	sums := func(n int) string { return strings.Repeat("sum(", n) + "a" + strings.Repeat(")", n) }
	for _, s := range []string{
		strings.Repeat("-", 199) + "1", "-(" + chain + ")", "-" + chain, chain[:len(chain)-1] + "-1", "sum(" + chain + ")", "topk(1," + chain + ")", "rate(" + chain + ")", "(((-((" + chain + "))) ))",
		strings.Repeat("a<", 99) + "-a", strings.Repeat("1*", 99) + "-{}",
		strings.Repeat("1+", 49) + "1+(" + strings.Repeat("1*", 49) + "-1)",
		sums(60) + "+" + sums(9) + "+" + strings.Repeat("-", 126) + "1",
	} {
		q := read(t, s)
		if n := nodes(q.Root); n != 200 {
			t.Fatalf("%q: %d nodes", s, n)
		}
		printsBack(t, q)
		for _, more := range []string{"-(" + s + ")", "(" + s + ")+1", "sum(" + s + ")", "rate(" + s + ")", "1+(" + s + ") limit 1"} {
			if len(more) <= api.MaxText {
				refuses(t, api.ErrForm, more)
			}
		}
	}
	refuses(t, api.ErrForm, strings.Repeat("-", 200)+"1", strings.Repeat("-", 599)+"1", strings.Repeat("1+", 100)+"1", strings.Repeat("1+", 299)+"1", strings.Repeat("a<", 299)+"-a", strings.Repeat("-1+", 199)+"1", strings.Repeat("1+", 99)+"--1")
	reads(t, strings.Repeat("((((", 70)+"-1"+strings.Repeat("))))", 70), plain(neg(num(1))), "-1")
}

// P801, P802
func TestOrderLimitOffset(t *testing.T) {
	for _, order := range []struct {
		s string
		n int
	}{{"", api.ByLabels}, {" order asc", api.Rising}, {" order desc", api.Falling}} {
		for _, limit := range []int{-1, 0, 1, 10, api.MaxRows} {
			for _, offset := range []int{-1, 0, 7, api.MaxRows} {
				tail := order.s
				if limit >= 0 {
					tail += " limit " + strconv.Itoa(limit)
				}
				if offset >= 0 {
					tail += " offset " + strconv.Itoa(offset)
				}
				want := api.Query{Root: cpu(), Order: order.n, Limit: limit, Offset: offset}
				reads(t, "cpu"+tail, want, "cpu"+tail)
				want.Root = neg(bin("+", num(1), cpu()))
				reads(t, "(-(1+cpu))"+strings.ReplaceAll(tail, " ", "\n"), want, "-(1 + cpu)"+tail)
				want.Root = sel("", 5)
				reads(t, "{}[5s]"+tail, want, "{}[5s]"+tail)
			}
		}
	}
	reads(t, "1 limit 0002000 offset 000", api.Query{Root: num(1), Limit: 2000, Offset: 0}, "1 limit 2000 offset 0")
	for _, n := range []string{"2001", "2002", "9999", "1000000000000", "02001", "10000000000000"} {
		refuses(t, api.ErrForm, "cpu limit "+n, "cpu offset "+n, "cpu order asc limit "+n+" offset 1", "cpu limit 1 offset "+n)
	}
	refuses(t, api.ErrForm,
		"order asc", "limit 1", "offset 1", "cpu order", "cpu asc", "cpu desc", "cpu order up", "cpu order asc desc", "cpu order asc order asc", "cpu order (asc)", "cpu order desc,asc", `cpu order "asc"`, "cpu order limit 1", "cpu order 1", "cpu order rising", "cpu order ASC", "cpu ORDER asc", `cpu "order" asc`, "cpu order by host asc",
		"cpu limit", "cpu limit -1", "cpu limit cpu", "cpu limit 5m", `cpu limit "5"`, "cpu limit (5)", "cpu limit 5 5", "cpu limit 5+5", "cpu limit 5 limit 5", "cpu limit 5,5", "cpu limit = 5", "cpu limit offset 5", "cpu LIMIT 5", "cpu 5 limit",
		"cpu offset", "cpu offset -1", "cpu offset cpu", "cpu offset 5s", "cpu offset 5 5", "cpu offset 5 offset 5", "cpu offset limit",
		"cpu offset 1 limit 1", "cpu limit 1 order asc", "cpu offset 1 order asc", "cpu order asc offset 1 limit 1", "cpu limit 1 offset 1 order desc", "cpu order asc + 1", "cpu limit 1 + 1", "cpu + limit 1", "cpu limit 1)", "cpu order asc)", "cpu, limit 1", "cpu order asc, limit 1")
}

// P802: Node is Print without what stands behind the root, of each part.
func TestNode(t *testing.T) {
	for _, s := range []string{"1", "-1", "1+2*-3", "cpu", "{}", `cpu{a!~"x"}[5m]`, "topk by(a,b)(3,-cpu)", "sum without()(a+on()b)", "rate((cpu[1h]))", "-(a-b)", "a<ignoring(x)-b"} {
		q := read(t, s+" order desc limit 3")
		if got, want := parse.Print(q), parse.Node(q.Root)+" order desc limit 3"; got != want {
			t.Errorf("Print: %q, not %q", got, want)
		}
		if again := read(t, parse.Node(q.Root)); !parse.Same(again.Root, q.Root) {
			t.Errorf("Node of %q: %q", s, parse.Node(q.Root))
		}
	}
	for _, c := range []struct {
		n    api.Node
		want string
	}{
		{num(0), "0"}, {neg(num(5)), "-5"}, {neg(neg(num(5))), "-(-5)"}, {bin(">=", neg(num(1)), bin("+", num(2), num(3))), "(-1) >= (2 + 3)"},
		{with(bin("%", num(1), num(2)), 2, "a", "b"), "1 % ignoring(a,b) 2"}, {with(bin("%", num(1), num(2)), 1), "1 % on() 2"},
		{agg("quantile", 0, bin("+", num(1), num(2))), "quantile(0,1 + 2)"}, {with(agg("count", 0, neg(num(1))), 1, "x"), "count by (x) (-1)"}, {with(agg("topk", 9, num(1)), 2), "topk without () (9,1)"},
		{fn("increase", neg(sel("", 9))), "increase(-{}[9s])"}, {sel("", 0), "{}"}, {sel("x", 0), "x"}, {sel("x", 1), "x[1s]"}, {sel("", 1, matcher("a", 4, "\"")), `{a!~"\""}[1s]`},
	} {
		if got := parse.Node(c.n); got != c.want {
			t.Errorf("Node(%+v): %q, not %q", c.n, got, c.want)
		}
	}
}

// Rule 7: nodes that Read does not make are written somehow.
func TestNodesThatReadDoesNotMake(t *testing.T) {
	for _, op := range []string{"", "num", "neg", "bin", "agg", "fn", "sel", "Num", "\xff"} {
		for _, kids := range [][]api.Node{nil, {}, {{}}, {num(1)}, {num(1), num(2)}, {neg(num(1)), {}, {Op: op}}} {
			n := api.Node{Op: op, Text: "\xff", N: math.MinInt, Mode: -1, Names: []string{""}, Matchers: []api.Matcher{{}, {Op: 9}}, Kids: kids}
			for _, mode := range []int{math.MinInt, 0, 1, 2, 3, math.MaxInt} {
				n.Mode = mode
				if parse.Node(n) != parse.Node(n) || !parse.Same(n, n) {
					t.Errorf("of %+v", n)
				}
				parse.Print(api.Query{Root: n, Order: mode, Limit: mode, Offset: mode})
			}
		}
	}
}

// deep tells a node of that many levels, with another one at the end.
func deep(op string, levels int, end api.Node) api.Node {
	for range levels {
		end = api.Node{Op: op, Text: "sum", Kids: []api.Node{end}}
	}
	return end
}

// P802: also of the most levels that may be.
func TestDeepNodes(t *testing.T) {
	const levels = 1<<16 - 1
	a, b := deep("neg", levels, num(1)), deep("neg", levels, num(2))
	if !parse.Same(a, deep("neg", levels, num(1))) || parse.Same(a, b) || parse.Same(a, deep("neg", levels-1, num(1))) {
		t.Error("Same of deep ones")
	}
	if got, want := parse.Node(a), strings.Repeat("-(", levels-1)+"-1"+strings.Repeat(")", levels-1); got != want {
		t.Errorf("%d bytes, not %d", len(got), len(want))
	}
	if got, want := parse.Node(deep("agg", levels, num(1))), strings.Repeat("sum(", levels)+"1"+strings.Repeat(")", levels); got != want {
		t.Errorf("%d bytes, not %d", len(got), len(want))
	}
}

// full tells a node that has something in each field.
func full() api.Node {
	kid := api.Node{Op: "k", Text: "t", N: 1, Mode: 1, Names: []string{"n"}, Matchers: []api.Matcher{{Name: "m", Op: 1, Value: "v"}}, Kids: []api.Node{{Op: "x"}}}
	return api.Node{Op: "o", Text: "t", N: 5, Mode: 2, Names: []string{"a", "b"}, Matchers: []api.Matcher{{Name: "m", Op: 1, Value: "v"}, {Name: "m", Op: 2, Value: "v"}}, Kids: []api.Node{kid, {Op: "y"}}}
}

// P802: alike in all.
func TestSame(t *testing.T) {
	if !parse.Same(full(), full()) || !parse.Same(api.Node{}, api.Node{}) {
		t.Error("of the same ones")
	}
	for i, turn := range []func(n *api.Node){
		func(n *api.Node) { n.Op = "" }, func(n *api.Node) { n.Op = "O" }, func(n *api.Node) { n.Text = "u" }, func(n *api.Node) { n.N = -5 }, func(n *api.Node) { n.Mode = 1 },
		func(n *api.Node) { n.Names = nil }, func(n *api.Node) { n.Names = n.Names[:1] }, func(n *api.Node) { n.Names[0], n.Names[1] = "b", "a" }, func(n *api.Node) { n.Names[1] = "c" }, func(n *api.Node) { n.Names = []string{"ab"} }, func(n *api.Node) { n.Names = append(n.Names, "") }, func(n *api.Node) { n.Names = []string{"a,b"} },
		func(n *api.Node) { n.Matchers = nil }, func(n *api.Node) { n.Matchers = n.Matchers[1:] }, func(n *api.Node) { n.Matchers[0].Name = "" }, func(n *api.Node) { n.Matchers[0].Op = 3 }, func(n *api.Node) { n.Matchers[1].Value = "w" }, func(n *api.Node) { n.Matchers[0], n.Matchers[1] = n.Matchers[1], n.Matchers[0] }, func(n *api.Node) { n.Matchers = append(n.Matchers, api.Matcher{}) },
		func(n *api.Node) { n.Kids = nil }, func(n *api.Node) { n.Kids = n.Kids[:1] }, func(n *api.Node) { n.Kids[0], n.Kids[1] = n.Kids[1], n.Kids[0] }, func(n *api.Node) { n.Kids = append(n.Kids, api.Node{}) },
		func(n *api.Node) { n.Kids[1].Op = "z" }, func(n *api.Node) { n.Kids[0].Text = "" }, func(n *api.Node) { n.Kids[0].N++ }, func(n *api.Node) { n.Kids[0].Mode = 0 }, func(n *api.Node) { n.Kids[0].Names[0] = "o" }, func(n *api.Node) { n.Kids[0].Matchers[0].Value = "" }, func(n *api.Node) { n.Kids[0].Kids[0].Op = "" }, func(n *api.Node) { n.Kids[0].Kids[0].Kids = []api.Node{{}} },
	} {
		n := full()
		turn(&n)
		if parse.Same(n, full()) || parse.Same(full(), n) {
			t.Errorf("turn %d is not seen", i)
		}
		if !parse.Same(n, n) {
			t.Errorf("turn %d: not the same as itself", i)
		}
	}
	// nil lists are empty ones.
	empty := api.Node{Names: []string{}, Matchers: []api.Matcher{}, Kids: []api.Node{}}
	if !parse.Same(empty, api.Node{}) || !parse.Same(api.Node{}, empty) || !parse.Same(api.Node{Kids: []api.Node{empty}}, api.Node{Kids: []api.Node{{}}}) {
		t.Error("nil lists are empty ones")
	}
	// How it was written does not count, but what it says.
	for _, c := range []struct {
		a, b string
		want bool
	}{{"1+2", " ( 1 ) + 002", true}, {"cpu[1m]", "cpu[60s]", true}, {"cpu{}", "cpu[0s]", true}, {"1+2", "2+1", false}, {"1-2-3", "1-(2-3)", false}, {"a+on()b", "a+b", false}, {"a+on()b", "a+ignoring()b", false}, {"sum by()(a)", "sum(a)", false}, {"-1", "0-1", false}, {`{a="b"}`, `{a=~"b"}`, false}, {"cpu", "{}", false}, {"min(a)", "max(a)", false}, {"topk(1,a)", "topk(2,a)", false}} {
		if got := parse.Same(read(t, c.a).Root, read(t, c.b).Root); got != c.want {
			t.Errorf("Same of %q and %q: %v", c.a, c.b, got)
		}
	}
}

// P802
func TestAggNames(t *testing.T) {
	for _, name := range aggs() {
		if !parse.Agg(name) {
			t.Errorf("Agg(%q): false", name)
		}
		for _, near := range []string{name + "_over", name + " ", " " + name, strings.ToUpper(name), name[1:], name[:len(name)-1], name + name, name + "\x00"} {
			if parse.Agg(near) {
				t.Errorf("Agg(%q): true", near)
			}
		}
	}
	for _, name := range slices.Concat(never(), fns(), []string{"", "cpu", "bottomk", "stddev", "group", "Sum", "k", "\xff", "sum,min", "mean", "rank"}) {
		if parse.Agg(name) {
			t.Errorf("Agg(%q): true", name)
		}
	}
}

// spoil writes into each list of a node, also behind its end.
func spoil(n *api.Node) {
	for i := range n.Kids {
		spoil(&n.Kids[i])
	}
	clear(n.Names[:cap(n.Names)])
	clear(n.Matchers[:cap(n.Matchers)])
	clear(n.Kids[:cap(n.Kids)])
}

// texts tells all texts of a node that come of what was read.
func texts(n api.Node) []string {
	all := append([]string{n.Text}, n.Names...)
	for _, m := range n.Matchers {
		all = append(all, m.Name, m.Value)
	}
	for _, kid := range n.Kids {
		all = append(all, texts(kid)...)
	}
	return all
}

// Rule 2: an answer shares no memory with what was handed in, nor with what is
// answered later, nor a list of it with another one of it.
func TestAnswersAreNew(t *testing.T) {
	s := strings.Clone(`topk by(host,zone)(3,rate(cpu{host=~"ab",_z!="cd",x="y"}[2h]))/on(aa,bb,cc)mem{a="bb"}+sum without(x,y,z)(-{q="r",s="t",u="v"})`)
	first, second := read(t, s), read(t, s)
	want := parse.Print(second)
	from := uintptr(unsafe.Pointer(unsafe.StringData(s)))
	later := texts(second.Root)
	for i, x := range texts(first.Root) {
		p := uintptr(unsafe.Pointer(unsafe.StringData(x)))
		if x != "" && from <= p && p < from+uintptr(len(s)) {
			t.Errorf("%q is a piece of what was handed in", x)
		}
		if x != "" && unsafe.StringData(x) == unsafe.StringData(later[i]) && x != "/" && x != "+" {
			t.Errorf("%q is a piece of another answer", x)
		}
	}
	left := first.Root.Kids[0]
	kept := parse.Node(left)
	spoil(&first.Root.Kids[1])
	if got := parse.Node(left); got != kept {
		t.Errorf("the left kid is %q now, not %q", got, kept)
	}
	spoil(&first.Root)
	if got := parse.Print(second); got != want {
		t.Errorf("the second answer is %q now", got)
	}
	if got := parse.Print(read(t, s)); got != want {
		t.Errorf("it is read as %q now", got)
	}
	n := sel(strings.Clone("cpu"), 0)
	if got := parse.Node(n); unsafe.StringData(got) == unsafe.StringData(n.Text) {
		t.Error("Node is a piece of what was handed in")
	}
}

// Rule 2: nothing writes into what was handed in.
func TestNothingIsTurned(t *testing.T) {
	q := read(t, `topk by(host,zone)(3,rate(cpu{host=~"ab",_z!="cd"}[2h]))/on(aa,bb)-mem{a="bb"} limit 3`)
	had := fmt.Sprintf("%#v", q)
	for range 2 {
		parse.Print(q)
		parse.Node(q.Root)
		parse.Same(q.Root, q.Root.Kids[0])
		parse.Same(q.Root, read(t, parse.Print(q)).Root)
	}
	if got := fmt.Sprintf("%#v", q); got != had {
		t.Errorf("%s, not %s", got, had)
	}
}

// P801: what Words tells of a text is what Read reads of it: blanks and the
// way in which a token is written do not count.
func TestReadOfJoin(t *testing.T) {
	for _, s := range []string{"1+2*-3", `topk by(host)(03,rate(cpu{host=~"a|b"}[2h]))/on()-007 limit 10`, "a<b", "{}", "cpu[0s]order asc", "1 2", "(", "on"} {
		l, e := lex.Words(s)
		if e != api.OK {
			t.Fatal(e)
		}
		a, ea := parse.Read(s)
		b, eb := parse.Read(lex.Join(l...))
		if ea != eb || !equal(a, b) {
			t.Errorf("%q: %+v, %d; joined %+v, %d", s, a, ea, b, eb)
		}
	}
}
