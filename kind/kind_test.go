package kind_test

import (
	"fmt"
	"math"
	"math/rand"
	"slices"
	"strconv"
	"strings"
	"testing"
	"unsafe"

	"leporello/api"
	"leporello/kind"
	"leporello/lex"
	"leporello/parse"
)

// none stands for ErrKind in tables of kinds.
const none = 0

func num(n int) api.Node { return api.Node{Op: "num", N: n} }

func sel(metric string, seconds int) api.Node {
	return api.Node{Op: "sel", Text: metric, N: seconds}
}

func fn(name string, kid api.Node) api.Node {
	return api.Node{Op: "fn", Text: name, Kids: []api.Node{kid}}
}

func agg(name string, n int, kid api.Node) api.Node {
	return api.Node{Op: "agg", Text: name, N: n, Kids: []api.Node{kid}}
}

func neg(kid api.Node) api.Node { return api.Node{Op: "neg", Kids: []api.Node{kid}} }

func bin(sign string, a, b api.Node) api.Node {
	return api.Node{Op: "bin", Text: sign, Kids: []api.Node{a, b}}
}

// with tells a node that has a mode and names.
func with(n api.Node, mode int, names ...string) api.Node {
	n.Mode, n.Names = mode, names
	return n
}

// All functions, the aggregations that have no number, and the signs of a bin.
func fns() []string {
	return strings.Fields("sum_over min_over max_over count_over avg_over last_over increase rate")
}
func plain() []string { return strings.Fields("sum min max count avg") }
func signs() []string { return strings.Fields("+ - * / % == != < <= > >=") }

// read reads a text that must be a query.
func read(t *testing.T, s string) api.Query {
	t.Helper()
	q, e := parse.Read(s)
	if e != api.OK {
		t.Fatalf("Read(%q): %d", s, e)
	}
	return q
}

// isOf holds what Of and Check tell of a query and of its root.
func isOf(t *testing.T, q api.Query, want int) {
	t.Helper()
	e, check := api.OK, api.OK
	if want == none {
		e = api.ErrKind
	}
	if want == none || want == kind.Range {
		check = api.ErrKind
	}
	if k, got := kind.Of(q.Root); k != want || got != e {
		t.Fatalf("Of(%s): %d, %d, not %d, %d", parse.Node(q.Root), k, got, want, e)
	}
	if got := kind.Check(q); got != check {
		t.Fatalf("Check(%s): %d, not %d", parse.Print(q), got, check)
	}
}

// are holds that these texts, and they in brackets, are of that kind.
func are(t *testing.T, want int, texts ...string) {
	t.Helper()
	for _, s := range texts {
		isOf(t, read(t, s), want)
		isOf(t, read(t, "(("+s+"))"), want)
	}
}

// P901: the numbers of the kinds.
func TestNumbersOfKinds(t *testing.T) {
	if kind.Number != 1 || kind.Vector != 2 || kind.Range != 3 {
		t.Errorf("%d, %d, %d", kind.Number, kind.Vector, kind.Range)
	}
}

// P901: num and sel.
func TestLeaves(t *testing.T) {
	are(t, kind.Number, "0", "1", "007", "1000000000000")
	are(t, kind.Vector, "cpu", "{}", "cpu{}", `cpu{host="a"}`, `{host=~"a|b",x!=""}`, "cpu[0s]", "{}[0h]", "cpu{}[00m]", "s", "été")
	are(t, kind.Range, "cpu[1s]", "{}[1s]", "cpu[5m]", `cpu{host="a"}[1h]`, "cpu[1000000000s]", "{}[277777h]")
}

// P901: the chapter's example, and fn of each other kind of kid.
func TestFn(t *testing.T) {
	are(t, none, "rate(cpu)")
	for _, f := range fns() {
		are(t, kind.Vector, f+"(cpu[5m])", f+"({}[1s])", f+`(cpu{a!="b"}[1h])`, f+"((cpu[5m]))")
		are(t, none, f+"(cpu)", f+"({})", f+"(cpu[0s])", f+"(1)", f+"(-1)", f+"(1+2)", f+"(-cpu)", f+"(-cpu[5m])", f+"(cpu[5m]+cpu[5m])", f+"(cpu[5m]+1)", f+"(sum(cpu))", f+"(sum(cpu[5m]))", f+"(rate(cpu[5m]))", f+"("+f+"(cpu[5m]))", f+"("+f+"(cpu))")
	}
}

// P901: agg of each kind of kid.
func TestAgg(t *testing.T) {
	heads := []string{"topk(3,", "quantile(50,", "topk by(a)(1,", "quantile without(a,b)(0,"}
	for _, a := range plain() {
		heads = append(heads, a+"(", a+" by(a)(", a+" by()(", a+" without(a,b)(", a+" without()(")
	}
	for _, h := range heads {
		are(t, kind.Vector, h+"cpu)", h+"{})", h+"cpu[0s])", h+"rate(cpu[5m]))", h+"-cpu)", h+"cpu+1)", h+"1<cpu)", h+"cpu+on(a)mem)", h+h+"cpu))", h+h+h+"rate(cpu[5m]))))")
		are(t, none, h+"1)", h+"-1)", h+"1+2)", h+"cpu[5m])", h+"{}[1s])", h+"-cpu[5m])", h+"rate(cpu))", h+"cpu[5m]+1)", h+h+"1))", h+h+"cpu[5m]))", h+h+h+"rate(cpu))))")
	}
}

// P901: the numbers that quantile and topk may have, at their edges.
func TestNumbersOfAgg(t *testing.T) {
	for _, mode := range []string{"", " by(a)", " without(a)"} {
		for _, c := range []struct{ n, quantile, topk int }{
			{0, kind.Vector, none}, {1, kind.Vector, kind.Vector}, {2, kind.Vector, kind.Vector}, {99, kind.Vector, kind.Vector}, {100, kind.Vector, kind.Vector},
			{101, none, kind.Vector}, {102, none, kind.Vector}, {1999, none, kind.Vector}, {2000, none, kind.Vector},
			{2001, none, none}, {2002, none, none}, {1 << 31, none, none}, {1 << 32, none, none}, {1<<32 + 1, none, none}, {api.MaxV, none, none},
		} {
			for name, want := range map[string]int{"quantile": c.quantile, "topk": c.topk} {
				s := name + mode + "(" + strconv.Itoa(c.n) + ","
				are(t, want, s+"cpu)", s+"rate(cpu[5m]))", s+"-(cpu+1))", "-"+s+"cpu)", "sum("+s+"cpu))", "1+"+s+"cpu)", s+"cpu)*on(a)cpu")
				are(t, none, s+"1)", s+"cpu[5m])", s+"rate(cpu))", "rate("+s+"cpu))")
			}
		}
	}
	if api.MaxRows != 2000 {
		t.Errorf("MaxRows: %d", api.MaxRows)
	}
	// Of those that have no number, it is not asked.
	for _, name := range plain() {
		isOf(t, api.Query{Root: agg(name, 0, sel("cpu", 0))}, kind.Vector)
	}
}

// P901: neg is as its kid, but no Range.
func TestNeg(t *testing.T) {
	are(t, kind.Number, "-1", "--1", "---0", "-(1+2)", "-(1<2)")
	are(t, kind.Vector, "-cpu", "--{}", "-cpu[0s]", "-rate(cpu[5m])", "-sum(cpu)", "-(1+cpu)", "-topk(1,cpu)", "-(a+on()b)")
	are(t, none, "-cpu[5m]", "--{}[1s]", "-rate(cpu)", "-sum(1)", "-(1+cpu[5m])", "-quantile(101,cpu)", "-(1+on()cpu)", "--rate(-cpu[5m])")
}

// P901: bin of each kind of two kids, with and without a mode.
func TestBin(t *testing.T) {
	kinds := map[int][]string{
		none:        {"rate(cpu)", "sum(1)", "-cpu[5m]", "topk(0,cpu)", "(1+on()2)"},
		kind.Number: {"1", "-1", "(1+2)", "(1<2)", "--(1/0)"},
		kind.Vector: {"cpu", "{}", "rate(cpu[5m])", "-cpu", "sum(cpu)", "(cpu+1)", "(1==cpu)", "(a+on()b)", "topk(1,cpu)"},
		kind.Range:  {"cpu[5m]", "{}[1s]"},
	}
	plain := [4][4]int{kind.Number: {kind.Number: kind.Number, kind.Vector: kind.Vector}, kind.Vector: {kind.Number: kind.Vector, kind.Vector: kind.Vector}}
	moded := [4][4]int{kind.Vector: {kind.Vector: kind.Vector}}
	for a, left := range kinds {
		for b, right := range kinds {
			for _, x := range left {
				for _, y := range right {
					for _, sign := range signs() {
						are(t, plain[a][b], x+sign+y)
						are(t, moded[a][b], x+sign+"on()"+y, x+sign+"on(a)"+y, x+sign+"ignoring()"+y, x+sign+"ignoring(a,b)"+y)
					}
				}
			}
		}
	}
}

// P901: a part that is none makes each part none that it stands in, however
// deep.
func TestNoneStaysNone(t *testing.T) {
	for _, s := range []string{"rate(1)", "sum(cpu[5m])", "-cpu[5m]", "cpu[5m]+1", "1+on()cpu", "topk(0,cpu)", "quantile(101,cpu)"} {
		for range 6 {
			are(t, none, s)
			for _, around := range []string{"-(_)", "1+(_)", "(_)+1", "cpu*(_)", "(_)<cpu", "cpu-on(a)(_)", "(_)-ignoring()cpu", "sum(_)", "topk(1,_)", "quantile by(a)(1,_)", "rate(_)", "(_)-(_)"} {
				are(t, none, strings.ReplaceAll(around, "_", s))
			}
			s = "-(1+(" + s + "))"
		}
	}
}

// P901: Check asks nothing of what stands behind the root.
func TestCheck(t *testing.T) {
	for _, tail := range []string{"", " order asc", " order desc", " limit 0", " limit 2000", " offset 0", " offset 2000", " order desc limit 3 offset 4"} {
		isOf(t, read(t, "1"+tail), kind.Number)
		isOf(t, read(t, "-(1<2)"+tail), kind.Number)
		isOf(t, read(t, "cpu"+tail), kind.Vector)
		isOf(t, read(t, "topk(5,rate(cpu[5m]))"+tail), kind.Vector)
		isOf(t, read(t, "cpu[5m]"+tail), kind.Range)
		isOf(t, read(t, "({}[5m])"+tail), kind.Range)
		isOf(t, read(t, "rate(cpu)"+tail), none)
		isOf(t, read(t, "cpu[5m]+1"+tail), none)
	}
}

// known is a node, and the kind that it has.
type known struct {
	n api.Node
	k int
}

// grown tells all nodes that have these as kids, with their kinds by tables of
// what the chapter says.
func grown(of []known, signs ...string) []known {
	var all []known
	for _, x := range of {
		all = append(all, known{neg(x.n), [4]int{kind.Number: kind.Number, kind.Vector: kind.Vector}[x.k]})
		all = append(all, known{fn("rate", x.n), [4]int{kind.Range: kind.Vector}[x.k]})
		for _, n := range []int{0, 1, 100, 101, 2000, 2001} {
			vector := [4]int{kind.Vector: kind.Vector}[x.k]
			if n == 0 {
				all = append(all, known{with(agg("sum", n, x.n), 1, "a"), vector})
			}
			if n <= 100 {
				all = append(all, known{agg("quantile", n, x.n), vector})
			} else {
				all = append(all, known{agg("quantile", n, x.n), none})
			}
			if n >= 1 && n <= 2000 {
				all = append(all, known{with(agg("topk", n, x.n), 2), vector})
			} else {
				all = append(all, known{agg("topk", n, x.n), none})
			}
		}
		for _, y := range of {
			plain := [4][4]int{kind.Number: {0, 1, 2, 0}, kind.Vector: {0, 2, 2, 0}}[x.k][y.k]
			moded := [4][4]int{kind.Vector: {0, 0, 2, 0}}[x.k][y.k]
			for _, sign := range signs {
				all = append(all, known{bin(sign, x.n, y.n), plain}, known{with(bin(sign, x.n, y.n), 1, "a"), moded}, known{with(bin(sign, x.n, y.n), 2), moded})
			}
		}
	}
	return all
}

// P901: all nodes of few levels.
func TestAllSmallNodes(t *testing.T) {
	leaves := []known{{num(0), kind.Number}, {num(7), kind.Number}, {sel("cpu", 0), kind.Vector}, {sel("", 0), kind.Vector}, {sel("cpu", 1), kind.Range}, {sel("", 300), kind.Range}}
	small := append(slices.Clone(leaves), grown(leaves, signs()...)...)
	few := append(slices.Clone(leaves), grown(leaves, "+")...)
	seen := [4]int{}
	for _, l := range [][]known{small, grown(few, "<")} {
		for _, x := range l {
			isOf(t, api.Query{Root: x.n, Limit: -1, Offset: -1}, x.k)
			seen[x.k]++
		}
	}
	if slices.Contains(seen[:], 0) {
		t.Errorf("of the kinds: %v", seen)
	}
}

// P902: Deep of queries.
func TestDeep(t *testing.T) {
	for s, want := range map[string]int{
		"1": 1, "cpu": 1, "{}": 1, "cpu[5m]": 1, `cpu{a="b",c=~"d"}[5m]`: 1, "(((1)))": 1,
		"-1": 2, "--1": 3, "---cpu": 4, "rate(cpu[5m])": 2, "rate(cpu)": 2, "sum(1)": 2, "topk by(a)(3,cpu)": 2, "sum(rate(cpu[5m]))": 3,
		"1+2": 2, "1+2+3": 3, "1+(2+3)": 3, "1*2+3*4": 3, "1+-2": 3, "-1+2": 3, "-(1+2)": 3, "1+2+3+4+5": 5, "a+on(x)b": 2,
		"--1+2": 4, "1+--2": 4, "(1+2)*---3": 5, "---3*(1+2)": 5, "sum(a)+min(max(b))": 4, "topk(0,-cpu[5m])": 3, "1 order asc limit 1": 1, "-1 order desc offset 5": 2,
	} {
		if got := kind.Deep(read(t, s).Root); got != want {
			t.Errorf("Deep(%q): %d, not %d", s, got, want)
		}
	}
	// Of other nodes, too, of however many kids.
	for _, c := range []struct {
		n    api.Node
		want int
	}{{api.Node{}, 1}, {api.Node{Kids: []api.Node{}}, 1}, {api.Node{Kids: []api.Node{{}}}, 2}, {api.Node{Op: "sel", Kids: []api.Node{num(1), neg(neg(num(1))), neg(num(1))}}, 4}, {neg(api.Node{Op: "x", Kids: []api.Node{{}, {}, {}, neg(num(1))}}), 4}} {
		if got := kind.Deep(c.n); got != c.want {
			t.Errorf("Deep(%+v): %d, not %d", c.n, got, c.want)
		}
	}
}

// P902: Metrics of queries.
func TestMetrics(t *testing.T) {
	for s, want := range map[string]string{
		"1": "", "-1": "", "1+2": "", "{}": "", `{metric="cpu"}`: "", "{}[5m]": "", "rate({}[5m])+1": "", `sum by(cpu)({mem="disk"})`: "",
		"cpu": "cpu", "cpu[5m]": "cpu", `cpu{metric="mem"}`: "cpu", "-cpu": "cpu", "rate(cpu[5m])": "cpu", "rate(cpu)": "cpu", "sum by(mem)(cpu)": "cpu", "topk(3,cpu)": "cpu", "topk(0,cpu)": "cpu", "cpu limit 1": "cpu",
		"b+a": "b a", "a+b": "a b", "b+a+c": "b a c", "b+(a+c)": "b a c", "(b+a)*(d-c)": "b a d c", "d*c%b+a": "d c b a", "z<on(x,y)a": "z a", "z<ignoring(x)a": "z a",
		"cpu+cpu": "cpu", "a+b+a": "a b", "b+a+a+b+c+b": "b a c", "a-(b-(a-(b-c)))": "a b c", "cpu+cpu[5m]": "cpu", `cpu{a="b"}+mem+cpu{a!="b"}`: "cpu mem",
		"1+{}+b": "b", "{}+b+{}+a": "b a", "sum(rate(b[5m]))/-max without(c)(a)": "b a", "a+A+é+e": "a A é e", "a+aa+aaa+aa+a": "a aa aaa", "rates+sums+orders": "rates sums orders", "a+b[0s]+c[5m]": "a b c",
	} {
		if got := kind.Metrics(read(t, s).Root); !slices.Equal(got, strings.Fields(want)) {
			t.Errorf("Metrics(%q): %q, not %s", s, got, want)
		}
	}
	// Of sel alone is the text a metric.
	odd := api.Node{Op: "x", Text: "no", Names: []string{"no"}, Kids: []api.Node{{Text: "no"}, sel("b", 0), {Op: "Sel", Text: "no", Kids: []api.Node{sel("a", 1)}}, {Op: "num", Text: "no"}, sel("b", 5), sel("\xff", 0)}}
	if got := kind.Metrics(odd); !slices.Equal(got, []string{"b", "a", "\xff"}) {
		t.Errorf("Metrics: %q", got)
	}
	if got := kind.Metrics(api.Node{}); len(got) != 0 {
		t.Errorf("Metrics of nothing: %q", got)
	}
}

// made makes a part by chance, of at most that many levels; its metrics begin
// with m and nothing else that is a word does.
func made(r *rand.Rand, levels int) api.Node {
	if levels <= 1 || r.Intn(6) == 0 {
		metric := ""
		if r.Intn(5) > 0 {
			metric = "m" + strconv.Itoa(r.Intn(12))
		}
		n := sel(metric, r.Intn(2))
		if r.Intn(3) == 0 {
			n.Matchers = []api.Matcher{{Name: "a", Op: 1, Value: "m1"}}
		}
		return []api.Node{n, n, n, num(5)}[r.Intn(4)]
	}
	switch kid := made(r, levels-1); r.Intn(6) {
	case 0:
		return neg(kid)
	case 1:
		return fn("rate", kid)
	case 2:
		return with(agg("sum", 0, kid), 1, "a")
	default:
		other := made(r, levels-r.Intn(levels))
		return with(bin("+", other, kid), r.Intn(2))
	}
}

// levels tells how many levels a part has, one behind the other.
func levels(n api.Node) int {
	l := []api.Node{n}
	for all := 0; ; all++ {
		var next []api.Node
		for _, x := range l {
			next = append(next, x.Kids...)
		}
		if len(l) == 0 {
			return all
		}
		l = next
	}
}

// P902: of parts made by chance, against the words of what is printed.
func TestByChance(t *testing.T) {
	r := rand.New(rand.NewSource(9))
	many := 0
	for range 20_000 {
		n := made(r, 1+r.Intn(7))
		if got := kind.Deep(n); got != levels(n) {
			t.Fatalf("Deep(%s): %d", parse.Node(n), got)
		}
		words, e := lex.Words(parse.Node(n))
		if e != api.OK {
			continue
		}
		var want []string
		for _, w := range words {
			if w.Kind == api.Word && w.Text[0] == 'm' && !slices.Contains(want, w.Text) {
				want = append(want, w.Text)
			}
		}
		if got := kind.Metrics(n); !slices.Equal(got, want) {
			t.Fatalf("Metrics(%s): %q, not %q", parse.Node(n), got, want)
		}
		if len(want) > 3 {
			many++
		}
	}
	if many < 1000 {
		t.Errorf("only %d have many metrics", many)
	}
}

// chain tells a node of that many levels above another one.
func chain(levels int, end api.Node, around func(n api.Node) api.Node) api.Node {
	for range levels {
		end = around(end)
	}
	return end
}

// P901, P902: nodes of the most levels that may be.
func TestDeepNodes(t *testing.T) {
	const most = 1<<16 - 1
	for i, c := range []struct {
		end    api.Node
		around func(n api.Node) api.Node
		want   int
	}{
		{num(1), neg, kind.Number}, {sel("end", 0), neg, kind.Vector}, {sel("end", 5), neg, none}, {fn("rate", sel("end", 0)), neg, none},
		{sel("end", 0), func(n api.Node) api.Node { return agg("sum", 0, n) }, kind.Vector}, {num(1), func(n api.Node) api.Node { return agg("topk", 1, n) }, none},
		{num(1), func(n api.Node) api.Node { return bin("+", n, num(1)) }, kind.Number}, {num(1), func(n api.Node) api.Node { return bin("+", num(1), n) }, kind.Number},
		{sel("end", 0), func(n api.Node) api.Node { return bin("+", n, num(1)) }, kind.Vector}, {sel("end", 0), func(n api.Node) api.Node { return with(bin("+", sel("left", 0), n), 1) }, kind.Vector}, {num(1), func(n api.Node) api.Node { return with(bin("+", n, sel("right", 0)), 2) }, none},
		{sel("end", 5), func(n api.Node) api.Node { return fn("rate", n) }, none},
	} {
		n := chain(most-kind.Deep(c.end), c.end, c.around)
		if k, e := kind.Of(n); k != c.want || (e == api.OK) != (k != none) {
			t.Errorf("%d: %d, %d, not %d", i, k, e, c.want)
		}
		if got := kind.Deep(n); got != most {
			t.Errorf("%d: %d levels", i, got)
		}
	}
}

// full tells a node of that many levels that are full, with metrics m0, m1, ..
// from the left to the right, of so many.
func full(levels int, count *int, of int) api.Node {
	if levels > 1 {
		left := full(levels-1, count, of)
		return bin("+", left, full(levels-1, count, of))
	}
	*count++
	return sel("m"+strconv.Itoa((*count-1)%of), 0)
}

// P901, P902: of however many nodes.
func TestManyNodes(t *testing.T) {
	for _, of := range []int{1, 100, 1 << 17} {
		count := 0
		n := full(18, &count, of)
		isOf(t, api.Query{Root: n}, kind.Vector)
		if got := kind.Deep(n); got != 18 {
			t.Errorf("Deep: %d", got)
		}
		got := kind.Metrics(n)
		if len(got) != of {
			t.Fatalf("%d metrics, not %d", len(got), of)
		}
		for i, name := range got {
			if name != "m"+strconv.Itoa(i) {
				t.Fatalf("metric %d is %q", i, name)
			}
		}
		last := &n
		for len(last.Kids) > 0 {
			last = &last.Kids[1]
		}
		last.N = 5
		isOf(t, api.Query{Root: n}, none)
	}
}

// Rules 3, 7: nodes that parse.Read does not make do not make it panic, and
// nothing stands beside an error.
func TestNodesThatReadDoesNotMake(t *testing.T) {
	edges := []int{math.MinInt, -1, 0, 1, 3, 100, math.MaxInt}
	for _, op := range []string{"", "num", "neg", "bin", "agg", "fn", "sel", "Num", "\xff"} {
		for _, text := range []string{"", "topk", "quantile", "sum", "\xff"} {
			for _, kids := range [][]api.Node{nil, {}, {{}}, {num(1)}, {sel("", 0)}, {sel("", 5)}, {num(1), num(2)}, {sel("", 0), sel("", 5)}, {num(1), num(2), num(3)}, {neg(num(1)), {}, {Op: op}}} {
				for _, x := range edges {
					for _, mode := range edges {
						n := api.Node{Op: op, Text: text, N: x, Mode: mode, Names: []string{""}, Matchers: []api.Matcher{{}, {Op: 9}}, Kids: kids}
						k, e := kind.Of(n)
						if e == api.OK && (k < kind.Number || k > kind.Range) || e != api.OK && (k != 0 || e != api.ErrKind) {
							t.Fatalf("Of(%+v): %d, %d", n, k, e)
						}
						kind.Check(api.Query{Root: n, Order: x, Limit: mode, Offset: x})
						kind.Metrics(n)
						kind.Deep(n)
					}
				}
			}
		}
	}
	// P901: the numbers below 0 are none of a topk's or a quantile's.
	for _, n := range []int{math.MinInt, -2001, -100, -1} {
		isOf(t, api.Query{Root: agg("topk", n, sel("cpu", 0))}, none)
		isOf(t, api.Query{Root: agg("quantile", n, sel("cpu", 0))}, none)
	}
}

// Rule 2: an answer shares no memory with what was handed in, nor with one
// that is answered later.
func TestAnswersAreNew(t *testing.T) {
	n := bin("+", sel(strings.Clone("cpu"), 0), sel(strings.Clone("mem"), 0))
	first, second := kind.Metrics(n), kind.Metrics(n)
	for i, x := range first {
		if unsafe.StringData(x) == unsafe.StringData(n.Kids[i].Text) || unsafe.StringData(x) == unsafe.StringData(second[i]) {
			t.Errorf("%q is shared", x)
		}
	}
	clear(first[:cap(first)])
	if third := kind.Metrics(n); !slices.Equal(second, []string{"cpu", "mem"}) || !slices.Equal(third, second) {
		t.Errorf("%q, %q", second, third)
	}
}

// Rule 2: nothing writes into what was handed in.
func TestNothingIsTurned(t *testing.T) {
	q := read(t, `topk by(host,zone)(3,rate(cpu{host=~"ab",_z!="cd"}[2h]))/on(aa,bb)-mem{a="bb"}+cpu limit 3`)
	had := fmt.Sprintf("%#v", q)
	for range 2 {
		isOf(t, q, kind.Vector)
		if got := kind.Deep(q.Root); got != 5 {
			t.Errorf("Deep: %d", got)
		}
		if got := kind.Metrics(q.Root); !slices.Equal(got, []string{"cpu", "mem"}) {
			t.Errorf("Metrics: %q", got)
		}
	}
	if got := fmt.Sprintf("%#v", q); got != had {
		t.Errorf("%s, not %s", got, had)
	}
}
