package answer_test

import (
	"math"
	"math/rand"
	"strconv"
	"testing"

	"leporello/answer"
	"leporello/api"
	"leporello/label"
	"leporello/parse"
	"leporello/store"
)

// orders are those of the document, and others, which are as ByLabels.
func orders() []int {
	return []int{api.ByLabels, api.Rising, api.Falling, 3, -1, 1 << 32, math.MaxInt, math.MinInt}
}

// P1202: the numbers of the orders, and Less of two rows.
func TestLess(t *testing.T) {
	if api.ByLabels != 0 || api.Rising != 1 || api.Falling != 2 {
		t.Fatalf("%d, %d, %d", api.ByLabels, api.Rising, api.Falling)
	}
	least, greatest := strconv.Itoa(math.MinInt), strconv.Itoa(math.MaxInt)
	// Of each pair: does the first one come first by labels, rising, falling,
	// and the second one likewise?
	for _, c := range []struct {
		a, b          string
		first, second [3]bool
	}{
		{"a=1: 5", "a=1: 5", [3]bool{}, [3]bool{}}, {": 0", ": 0", [3]bool{}, [3]bool{}},
		{"a=1: 5", "a=2: 5", [3]bool{true, true, true}, [3]bool{}}, {"a=1: 5", "b=1: 5", [3]bool{true, true, true}, [3]bool{}}, {"a=1: 5", "a=1 b=1: 5", [3]bool{true, true, true}, [3]bool{}}, {": -5", "a=1: -5", [3]bool{true, true, true}, [3]bool{}}, {"a=1 b=2: 5", "a=2: 5", [3]bool{true, true, true}, [3]bool{}}, {"a=10: 5", "a=9: 5", [3]bool{true, true, true}, [3]bool{}}, {"a=é: 5", "a=\xff: 5", [3]bool{true, true, true}, [3]bool{}},
		{"a=1: 4", "a=1: 5", [3]bool{false, true, false}, [3]bool{false, false, true}}, {": -1", ": 0", [3]bool{false, true, false}, [3]bool{false, false, true}},
		{"a=1: 4", "a=2: 5", [3]bool{true, true, false}, [3]bool{false, false, true}}, {"a=1: 5", "a=2: 4", [3]bool{true, false, true}, [3]bool{false, true, false}}, {"a=1: -5", "a=2: 4", [3]bool{true, true, false}, [3]bool{false, false, true}}, {"a=1: -M", "a=2: M", [3]bool{true, true, false}, [3]bool{false, false, true}},
		{"a=1: " + least, "a=2: " + greatest, [3]bool{true, true, false}, [3]bool{false, false, true}}, {"a=1: " + greatest, "a=2: " + least, [3]bool{true, false, true}, [3]bool{false, true, false}}, {"a=1: " + least, "a=2: 1", [3]bool{true, true, false}, [3]bool{false, false, true}}, {"a=1: " + greatest, "a=2: -2", [3]bool{true, false, true}, [3]bool{false, true, false}},
		// Rows as they stand, right or not.
		{"b=1 a=1: 5", "b=1 a=2: 5", [3]bool{true, true, true}, [3]bool{}}, {"a=: 5", "a=1: 5", [3]bool{true, true, true}, [3]bool{}},
	} {
		a, b := rows(c.a)[0], rows(c.b)[0]
		for _, order := range orders() {
			at := 0
			if order == api.Rising || order == api.Falling {
				at = order
			}
			if first, second := answer.Less(order, a, b), answer.Less(order, b, a); first != c.first[at] || second != c.second[at] {
				t.Errorf("Less(%d) of %s and %s: %t, %t", order, c.a, c.b, first, second)
			}
		}
	}
}

// P1202: those that are alike stay in their order.
func TestSort(t *testing.T) {
	for _, c := range []struct{ l, byLabels, rising, falling string }{
		{"", "", "", ""}, {": 5", ": 5", ": 5", ": 5"},
		{"b=1: 1, a=1: 2", "a=1: 2, b=1: 1", "b=1: 1, a=1: 2", "a=1: 2, b=1: 1"}, {"a=1: 1, b=1: 2", "a=1: 1, b=1: 2", "a=1: 1, b=1: 2", "b=1: 2, a=1: 1"},
		{"a=3: 1, a=1: 1, a=2: 1", "a=1: 1, a=2: 1, a=3: 1", "a=1: 1, a=2: 1, a=3: 1", "a=1: 1, a=2: 1, a=3: 1"},
		{"a=1: 3, a=1: 1, a=1: 2", "a=1: 3, a=1: 1, a=1: 2", "a=1: 1, a=1: 2, a=1: 3", "a=1: 3, a=1: 2, a=1: 1"},
		{"b=1: 2, a=1: 3, b=1: 1, a=1: 1, : 1", ": 1, a=1: 3, a=1: 1, b=1: 2, b=1: 1", ": 1, a=1: 1, b=1: 1, b=1: 2, a=1: 3", "a=1: 3, b=1: 2, : 1, a=1: 1, b=1: 1"},
		{"a=1: -M, a=2: M, a=3: 0, a=4: -1", "a=1: -M, a=2: M, a=3: 0, a=4: -1", "a=1: -M, a=4: -1, a=3: 0, a=2: M", "a=2: M, a=3: 0, a=4: -1, a=1: -M"},
		{"a=2 b=1: 7, a=2: 7, a=1 b=2 c=3: 7, b=1: 7", "a=1 b=2 c=3: 7, a=2: 7, a=2 b=1: 7, b=1: 7", "a=1 b=2 c=3: 7, a=2: 7, a=2 b=1: 7, b=1: 7", "a=1 b=2 c=3: 7, a=2: 7, a=2 b=1: 7, b=1: 7"},
	} {
		for _, order := range orders() {
			want := c.byLabels
			switch order {
			case api.Rising:
				want = c.rising
			case api.Falling:
				want = c.falling
			}
			if got := answer.Sort(order, rows(c.l)...); !same(got, rows(want)) {
				t.Errorf("Sort(%d) of %s: %s, not %s", order, c.l, tell(got), want)
			}
		}
	}
}

// places tells rows in an order, asked word by word: each one behind all that
// come ahead of it, and behind those that are alike and stood ahead of it.
func places(order int, l []api.Row) []api.Row {
	ahead := func(a, b api.Row) bool {
		if order == api.Rising && a.V != b.V {
			return a.V < b.V
		}
		if order == api.Falling && a.V != b.V {
			return a.V > b.V
		}
		return label.Compare(a.Labels, b.Labels) < 0
	}
	all := make([]api.Row, len(l))
	for i, x := range l {
		place := 0
		for j, y := range l {
			if ahead(y, x) || j < i && !ahead(x, y) {
				place++
			}
		}
		all[place] = x
	}
	return all
}

// listed tells rows by chance; many are alike.
func listed(r *rand.Rand, n int) []api.Row {
	var l []api.Row
	for range n {
		x := api.Row{V: r.Intn(5) - 2}
		for _, name := range []string{"a", "b"} {
			if r.Intn(3) > 0 {
				x.Labels = append(x.Labels, api.Label{Name: name, Value: []string{"x", "y", "\xff"}[r.Intn(3)]})
			}
		}
		l = append(l, x)
	}
	return l
}

// P1202: of lists made by chance, also of more rows than an answer has.
func TestSortByWords(t *testing.T) {
	r := rand.New(rand.NewSource(12))
	for i := range 2000 {
		n := r.Intn(40)
		if i%500 == 0 {
			n = api.MaxRows + 100
		}
		l := listed(r, n)
		kept := copied(l)
		for _, order := range orders()[:4] {
			if got, want := answer.Sort(order, l...), places(order, l); !same(got, want) {
				t.Fatalf("Sort(%d) of %s: %s, not %s", order, tell(l), tell(got), tell(want))
			}
		}
		if !same(l, kept) {
			t.Fatalf("handed in %s, and now %s", tell(kept), tell(l))
		}
	}
}

// P1202: order, offset, limit.
func TestQuery(t *testing.T) {
	s := measured(t, "host=a metric=m: 2@5, host=b metric=m: 3@5, host=c metric=m: 1@5, host=d metric=m: 2@5")
	byLabels, rising, falling := "host=a: 2, host=b: 3, host=c: 1, host=d: 2", "host=c: 1, host=a: 2, host=d: 2, host=b: 3", "host=b: 3, host=a: 2, host=d: 2, host=c: 1"
	for tail, way := range map[string]string{"": byLabels, " order asc": rising, " order desc": falling} {
		for offset := -1; offset <= 6; offset++ {
			for limit := -1; limit <= 6; limit++ {
				text, want := "m+0"+tail, rows(way)
				if limit >= 0 {
					text += " limit " + strconv.Itoa(limit)
				}
				if offset >= 0 {
					text += " offset " + strconv.Itoa(offset)
					want = want[min(offset, 4):]
				}
				if limit >= 0 {
					want = want[:min(limit, len(want))]
				}
				got, e := answer.Ask(s, text, 5)
				is(t, text, got, e, want, api.OK)
				q, _ := parse.Read(text)
				got, e = answer.Query(s, q, 5)
				is(t, "Query "+text, got, e, want, api.OK)
				got, e = answer.Query(nil, q, 5)
				is(t, "of nothing, "+text, got, e, nil, api.OK)
			}
		}
	}
	for text, want := range map[string]string{
		"m limit 2000 offset 2000": "", "m limit 2000": "host=a metric=m: 2, host=b metric=m: 3, host=c metric=m: 1, host=d metric=m: 2", "m offset 3": "host=d metric=m: 2", "m order desc offset 3": "host=c metric=m: 1", "m order asc limit 1 offset 1": "host=a metric=m: 2",
		"7 order desc": ": 7", "7 limit 0": "", "7 limit 1": ": 7", "7 offset 0": ": 7", "7 offset 1": "", "topk(2,m) order asc": "host=a metric=m: 2, host=b metric=m: 3", "topk(2,m)": "host=a metric=m: 2, host=b metric=m: 3", "topk(2,m) order desc": "host=b metric=m: 3, host=a metric=m: 2",
	} {
		got, e := answer.Ask(s, text, 5)
		is(t, text, got, e, rows(want), api.OK)
	}
}

// P1202: an error is one, whichever rows are asked for.
func TestQueryRefuses(t *testing.T) {
	s := measured(t, "host=a metric=m: 2@5, host=a metric=n: 3@5")
	for _, tail := range []string{"", " order asc", " order desc", " limit 0", " limit 1", " offset 2000", " order asc limit 0 offset 9"} {
		for text, want := range map[string]api.Errno{"1/0": api.ErrDiv, "m*1000000000000": api.ErrOver, "{}+1": api.ErrTwice, "m[5s]": api.ErrKind, "rate(m)": api.ErrKind} {
			got, e := answer.Ask(s, text+tail, 5)
			is(t, text+tail, got, e, nil, want)
			got, e = answer.Ask(s, text+tail, late+1)
			if want != api.ErrKind {
				want = api.ErrArg
			}
			is(t, text+tail+" too late", got, e, nil, want)
		}
	}
}

// Nodes, orders, limits and offsets that parse.Read does not make are answered,
// too, without a panic.
func TestOddQueries(t *testing.T) {
	s := measured(t, "host=a metric=m: 2@5, host=b metric=m: 1@5")
	for _, order := range orders() {
		for _, odd := range []int{math.MinInt, -2, -1, 0, 1, 2, 3, math.MaxInt} {
			for _, also := range []int{math.MinInt, -1, 0, 1, math.MaxInt} {
				got, e := answer.Query(s, api.Query{Root: api.Node{Op: "sel", Text: "m"}, Order: order, Limit: odd, Offset: also}, 5)
				if e != api.OK || len(got) > 2 {
					t.Errorf("%s %d", tell(got), e)
				}
			}
		}
	}
	one, m := api.Node{Op: "num", N: 1}, api.Node{Op: "sel", Text: "m"}
	wide := api.Node{Op: "sel", Text: "m", N: 5}
	for _, op := range []string{"", "num", "sel", "fn", "agg", "bin", "neg", "NUM", "none"} {
		for _, text := range []string{"", "m", "+", "sum", "topk", "quantile", "rate", "none", "\xff"} {
			for _, n := range []int{math.MinInt, -1, 0, 1, math.MaxInt} {
				for _, kids := range [][]api.Node{nil, {{}}, {one}, {m}, {wide}, {one, m}, {m, m}, {one, one}, {wide, m}, {m, m, m}} {
					for _, mode := range []int{math.MinInt, 0, 1, 2, 3} {
						x := api.Node{Op: op, Text: text, N: n, Mode: mode, Names: []string{"", "host"}, Kids: kids, Matchers: []api.Matcher{{Name: "host", Op: n, Value: "("}}}
						for _, s := range []*store.Store{nil, s} {
							got, e := answer.Eval(s, x, 5)
							if e != api.OK && got != nil {
								t.Errorf("%+v: %s %d", x, tell(got), e)
							}
							answer.Query(s, api.Query{Root: x}, 5)
						}
					}
				}
			}
		}
	}
	got, e := answer.Query(s, api.Query{}, 5)
	is(t, "the zero query", got, e, nil, api.ErrKind)
	wide.Matchers = []api.Matcher{{Name: "host", Op: api.Like, Value: "("}}
	got, e = answer.Eval(s, api.Node{Op: "fn", Text: "rate", Kids: []api.Node{wide}}, 5)
	is(t, "a function of what Select refuses", got, e, nil, api.ErrArg)
}
