package answer_test

import (
	"math/rand"
	"slices"
	"strconv"
	"strings"
	"testing"
	"unsafe"

	"leporello/answer"
	"leporello/api"
	"leporello/fixed"
	"leporello/group"
	"leporello/kind"
	"leporello/label"
	"leporello/parse"
	"leporello/store"
	"leporello/vector"
	"leporello/window"
)

func num(n int) api.Node { return api.Node{Op: "num", N: n} }

func sel(metric string, seconds int, m ...api.Matcher) api.Node {
	return api.Node{Op: "sel", Text: metric, N: seconds, Matchers: m}
}

func neg(kid api.Node) api.Node { return api.Node{Op: "neg", Kids: []api.Node{kid}} }

func agg(name string, kid api.Node) api.Node {
	return api.Node{Op: "agg", Text: name, Kids: []api.Node{kid}}
}

func bin(sign string, a, b api.Node) api.Node {
	return api.Node{Op: "bin", Text: sign, Kids: []api.Node{a, b}}
}

// meant are the series that a selector means, asked word by word.
func meant(s *store.Store, n api.Node) []api.Series {
	var all []api.Series
	for _, x := range s.All() {
		_, e := store.Of(x)
		one := &store.Store{}
		for _, p := range x.Points {
			one.Put(x.Labels, p.T, p.V)
		}
		ok := e == api.OK && (n.Text == "" || slices.Contains(x.Labels, api.Label{Name: api.Metric, Value: n.Text}))
		for _, m := range n.Matchers {
			l, e := one.Select(m)
			ok = ok && e == api.OK && len(l) == 1
		}
		if ok {
			all = append(all, x)
		}
	}
	return all
}

// selByWords is P1201's sel, asked word by word.
func selByWords(s *store.Store, n api.Node, t int) []api.Row {
	var l []api.Row
	for _, x := range meant(s, n) {
		for _, p := range slices.Backward(x.Points) {
			if p.T <= t {
				if p.T > t-300 {
					l = append(l, api.Row{Labels: x.Labels, V: p.V})
				}
				break
			}
		}
	}
	return l
}

// fnByWords is P1201's fn, asked word by word.
func fnByWords(s *store.Store, n api.Node, t int) ([]api.Row, api.Errno) {
	var l []api.Row
	for _, x := range meant(s, n.Kids[0]) {
		var points []api.Point
		for _, p := range x.Points {
			if p.T > t-n.Kids[0].N && p.T <= t {
				points = append(points, p)
			}
		}
		v, ok, e := window.Do(n.Text, points)
		if e != api.OK {
			return nil, e
		}
		if ok {
			l = append(l, api.Row{Labels: label.Without(x.Labels, "metric"), V: v})
		}
	}
	slices.SortFunc(l, func(a, b api.Row) int { return label.Compare(a.Labels, b.Labels) })
	for i := range l {
		if i > 0 && slices.Equal(l[i-1].Labels, l[i].Labels) {
			return nil, api.ErrTwice
		}
	}
	return l, api.OK
}

// byWords is P1201's Eval of a part that has a kind, asked word by word: each
// time by the kinds of the kids.
func byWords(s *store.Store, n api.Node, t int) ([]api.Row, api.Errno) {
	var kids [][]api.Row
	var kinds []int
	for _, kid := range n.Kids {
		k, _ := kind.Of(kid)
		if k == kind.Range {
			return fnByWords(s, n, t)
		}
		l, e := byWords(s, kid, t)
		if e != api.OK {
			return nil, e
		}
		kids, kinds = append(kids, l), append(kinds, k)
	}
	switch n.Op {
	case "num":
		return []api.Row{{V: n.N}}, api.OK
	case "sel":
		return selByWords(s, n, t), api.OK
	case "agg":
		return group.Do(n.Text, n.N, n.Mode, n.Names, kids[0])
	case "neg":
		// The same as of two kids, of which the first one is a 0.
		n.Text, kids, kinds = "-", append([][]api.Row{{{}}}, kids...), append([]int{kind.Number}, kinds...)
	}
	switch {
	case kinds[0] == kind.Number && kinds[1] == kind.Number:
		v, e := fixed.Do(n.Text, kids[0][0].V, kids[1][0].V)
		if e != api.OK {
			return nil, e
		}
		return []api.Row{{V: v}}, api.OK
	case kinds[0] == kind.Number:
		return vector.Scale(n.Text, kids[1], kids[0][0].V, true)
	case kinds[1] == kind.Number:
		return vector.Scale(n.Text, kids[0], kids[1][0].V, false)
	}
	return vector.Match(n.Text, kids[0], kids[1], n.Mode, n.Names...)
}

// evalByWords is P1201's Eval of a time that may be.
func evalByWords(s *store.Store, n api.Node, t int) ([]api.Row, api.Errno) {
	if k, e := kind.Of(n); e != api.OK || k == kind.Range {
		return nil, api.ErrKind
	}
	return byWords(s, n, t)
}

// chances tells one of several texts by chance.
func chances(r *rand.Rand, texts string) string {
	l := strings.Split(texts, " ")
	return l[r.Intn(len(l))]
}

// madeStore makes a store by chance.
func madeStore(r *rand.Rand) *store.Store {
	s := new(store.Store)
	for range r.Intn(12) {
		var l []api.Label
		if v := chances(r, "a b \xff "); v != "" {
			l = append(l, api.Label{Name: "host", Value: v})
		}
		l = append(l, api.Label{Name: api.Metric, Value: chances(r, "cpu mem")})
		if v := chances(r, "x  "); v != "" {
			l = append(l, api.Label{Name: "zone", Value: v})
		}
		at := r.Intn(400)
		for range 1 + r.Intn(5) {
			v := r.Intn(9) - 2
			if r.Intn(20) == 0 {
				v = []int{most, -most}[r.Intn(2)]
			}
			s.Put(l, at, v)
			at += 1 + r.Intn(250)
		}
	}
	return s
}

// madeSel makes a selector by chance.
func madeSel(r *rand.Rand, seconds int) api.Node {
	n := sel(chances(r, "cpu mem cpu mem cpu mem none  "), seconds)
	for r.Intn(4) == 0 {
		n.Matchers = append(n.Matchers, api.Matcher{Name: chances(r, "host zone metric"), Op: 1 + r.Intn(4), Value: chances(r, "a b x cpu a|b .* .+ ")})
	}
	return n
}

// madeNumber makes a part by chance that is a Number, of at most that many
// levels; madeVector likewise.
func madeNumber(r *rand.Rand, levels int) api.Node {
	if levels <= 1 || r.Intn(2) == 0 {
		return num(r.Intn(4))
	}
	if r.Intn(3) == 0 {
		return neg(madeNumber(r, levels-1))
	}
	return bin(chances(r, "+ - * / % == != < <= > >="), madeNumber(r, levels-1), madeNumber(r, levels-1))
}

func madeVector(r *rand.Rand, levels int) api.Node {
	if levels <= 1 || r.Intn(5) == 0 {
		return madeSel(r, 0)
	}
	sign := chances(r, "+ - * / % == != < <= > >= + - *")
	switch r.Intn(6) {
	case 0:
		return api.Node{Op: "fn", Text: chances(r, "sum_over min_over max_over count_over avg_over last_over increase rate"), Kids: []api.Node{madeSel(r, []int{1, 60, 300, 900}[r.Intn(4)])}}
	case 1:
		return neg(madeVector(r, levels-1))
	case 2:
		return bin(sign, madeNumber(r, 3), madeVector(r, levels-1))
	case 3:
		return bin(sign, madeVector(r, levels-1), madeNumber(r, 3))
	case 4:
		n := agg(chances(r, "sum min max count avg topk quantile"), madeVector(r, levels-1))
		if n.Text == "topk" || n.Text == "quantile" {
			n.N = 1 + r.Intn(3)
		}
		return moded(r, n)
	}
	return moded(r, bin(sign, madeVector(r, levels-1), madeVector(r, levels-1)))
}

// moded gives a mode to a node by chance.
func moded(r *rand.Rand, n api.Node) api.Node {
	n.Mode = r.Intn(3)
	for n.Mode > 0 && r.Intn(2) == 0 {
		n.Names = append(n.Names, chances(r, "host zone metric"))
	}
	return n
}

// made makes a part by chance; some are of no kind.
func made(r *rand.Rand) api.Node {
	switch r.Intn(20) {
	case 0:
		return madeNumber(r, 4)
	case 1:
		return madeSel(r, 60)
	case 2:
		return bin("+", madeVector(r, 3), madeSel(r, 60))
	case 3:
		return moded(r, bin("*", madeVector(r, 3), madeNumber(r, 2)))
	case 4:
		return agg("sum", madeNumber(r, 2))
	}
	return madeVector(r, 1+r.Intn(4))
}

// P1201, P1202: parts and queries made by chance.
func TestByWords(t *testing.T) {
	r := rand.New(rand.NewSource(12))
	ended, some := map[api.Errno]int{}, 0
	for i := range 60000 {
		s, n, at := madeStore(r), made(r), r.Intn(1000)
		if i%50 == 0 {
			s = nil
		}
		got, e := answer.Eval(s, n, at)
		want, wantE := evalByWords(s, n, at)
		what := parse.Node(n) + " at " + strconv.Itoa(at)
		is(t, what, got, e, want, wantE)
		if e == api.OK && !vector.Right(got) {
			t.Errorf("%s: no vector: %s", what, tell(got))
		}
		ended[e]++
		if len(got) > 1 {
			some++
		}
		q := api.Query{Root: n, Order: r.Intn(3), Limit: r.Intn(5) - 1, Offset: r.Intn(4) - 1}
		queryByWords(t, s, q, at, want, wantE)
		if t.Failed() {
			return
		}
	}
	if ended[api.ErrKind] < 1000 || ended[api.ErrDiv] < 500 || ended[api.ErrTwice] < 1000 || ended[api.ErrOver] < 100 || some < 5000 {
		t.Errorf("ended as %v; %d of more than one row", ended, some)
	}
}

// queryByWords holds Query and Ask against the rows of its root.
func queryByWords(t *testing.T, s *store.Store, q api.Query, at int, l []api.Row, e api.Errno) {
	t.Helper()
	if q.Order != 0 {
		l = places(q.Order, l)
	}
	var want []api.Row
	for i, x := range l {
		if i >= q.Offset && (q.Limit < 0 || i < max(q.Offset, 0)+q.Limit) {
			want = append(want, x)
		}
	}
	what := parse.Print(q) + " at " + strconv.Itoa(at)
	got, queryE := answer.Query(s, q, at)
	is(t, "Query "+what, got, queryE, want, e)
	if text := parse.Print(q); len(text) <= api.MaxText {
		got, askE := answer.Ask(s, text, at)
		is(t, "Ask "+what, got, askE, want, e)
	}
}

// P1201: as many levels as may be.
func TestDeep(t *testing.T) {
	const levels = 1 << 16
	s := measured(t, "host=a metric=m: 2@5, host=b metric=m: 1@5, host=a metric=n: 1@5")
	for what, c := range map[string]struct {
		begin api.Node
		wrap  func(api.Node) api.Node
		want  string
	}{
		"neg of a number": {num(7), neg, ": -7"}, "neg of a vector": {sel("m", 0), neg, "host=a: -2, host=b: -1"}, "sum": {sel("m", 0), func(n api.Node) api.Node { return agg("sum", n) }, ": 3"}, "topk": {sel("m", 0), func(n api.Node) api.Node { n = agg("topk", n); n.N = 5; return n }, "host=a metric=m: 2, host=b metric=m: 1"},
		"left": {num(0), func(n api.Node) api.Node { return bin("+", n, num(1)) }, ": 65535"}, "right": {num(0), func(n api.Node) api.Node { return bin("-", num(1), n) }, ": 1"},
		"a vector at the left": {sel("m", 0), func(n api.Node) api.Node { return bin("+", n, num(1)) }, "host=a: 65537, host=b: 65536"}, "a vector at the right": {sel("m", 0), func(n api.Node) api.Node { return bin("<", num(0), n) }, "host=a metric=m: 2, host=b metric=m: 1"}, "both": {sel("m", 0), func(n api.Node) api.Node { return bin("+", sel("n", 0), n) }, "host=a: 65537"},
	} {
		n := c.begin
		for range levels - 1 {
			n = c.wrap(n)
		}
		got, e := answer.Eval(s, n, 5)
		is(t, what, got, e, rows(c.want), api.OK)
		got, e = answer.Query(s, api.Query{Root: n, Limit: -1}, 5)
		is(t, what, got, e, rows(c.want), api.OK)
	}
	n := neg(sel("m", 5))
	for range levels - 2 {
		n = neg(n)
	}
	got, e := answer.Eval(s, n, 5)
	is(t, "neg of a range", got, e, nil, api.ErrKind)
}

// P1201: many more nodes than a text has.
func TestManyNodes(t *testing.T) {
	s := measured(t, "host=a metric=m: 2@5, host=b metric=m: 1@5, host=a metric=n: 1@5")
	for _, c := range []struct {
		leaf api.Node
		want string
	}{{num(3), ": 196608"}, {sel("m", 0), "host=a: 131072, host=b: 65536"}, {neg(sel("n", 0)), "host=a: -65536"}} {
		n := c.leaf
		for range 16 {
			n = bin("+", n, n)
		}
		got, e := answer.Eval(s, n, 5)
		is(t, "many nodes", got, e, rows(c.want), api.OK)
	}
}

// P1201: of as many series and points as may be.
func TestFullStore(t *testing.T) {
	s, want := new(store.Store), []api.Row{}
	for i := range api.MaxSeries {
		l := labels("a=" + strconv.Itoa(100+i) + " b=1 c=1 d=1 e=1 f=1 g=1 metric=m")
		for at := range api.MaxPoints {
			if e := s.Put(l, at, i*at); e != api.OK {
				t.Fatal(e)
			}
		}
		want = append(want, api.Row{Labels: l, V: i * (api.MaxPoints - 1)})
	}
	got, e := answer.Ask(s, "m", 24)
	is(t, "m", got, e, want, api.OK)
	slices.Reverse(want)
	got, e = answer.Ask(s, "{} order desc", 300)
	is(t, "m order desc", got, e, want, api.OK)
	got, e = answer.Ask(s, "sum(sum_over(m[25s])) + count(m)", 24)
	is(t, "sum", got, e, rows(": 234040"), api.OK)
}

// Rule 2: nothing writes into what was handed in, nor into what is behind it.
func TestNothingIsWrittenInto(t *testing.T) {
	s := fleet(t)
	had := s.All()
	matchers := []api.Matcher{{Name: "host", Op: api.Is, Value: "a"}, {Name: "kept", Op: api.Is, Value: "kept"}, {Name: "kept", Op: api.Is, Value: "kept"}}
	names := []string{"host", "kept", "kept"}
	kept, keptNames := slices.Clone(matchers), slices.Clone(names)
	cpu := sel("cpu", 0, matchers[:1]...)
	sum, both := agg("sum", cpu), bin("+", cpu, sel("mem", 0, matchers[:1]...))
	sum.Mode, sum.Names, both.Mode, both.Names = 2, names[:1], 2, names[:1]
	over := api.Node{Op: "fn", Text: "max_over", Kids: []api.Node{sel("cpu", 900, matchers[:1]...)}}
	for _, n := range []api.Node{cpu, sum, both, over, neg(cpu), bin("<", num(1), cpu)} {
		text := parse.Node(n)
		for order := range 3 {
			got, e := answer.Query(s, api.Query{Root: n, Order: order, Limit: 1}, 1000)
			if e != api.OK || len(got) != 1 {
				t.Errorf("%s: %s %d", text, tell(got), e)
			}
		}
		if got := parse.Node(n); got != text {
			t.Errorf("handed in %s, and now %s", text, got)
		}
	}
	if !slices.Equal(matchers, kept) || !slices.Equal(names, keptNames) {
		t.Errorf("%v, %v", matchers, names)
	}
	for i, x := range s.All() {
		if !slices.Equal(x.Labels, had[i].Labels) || !slices.Equal(x.Points, had[i].Points) {
			t.Errorf("measured %v, and now %v", had[i], x)
		}
	}
	l := rows("b=1: 1, a=1: 3, c=1: 2")
	handed := copied(l)
	for _, order := range orders() {
		answer.Sort(order, l...)
		answer.Less(order, l[0], l[1])
	}
	if !same(l, handed) {
		t.Errorf("handed in %s, and now %s", tell(handed), tell(l))
	}
}

// taken is memory that somebody has, with who.
type taken map[unsafe.Pointer]string

// add tells of each piece of memory of rows, and of the room behind them, that
// it is had.
func (k taken) add(t *testing.T, what string, l []api.Row) {
	var all []unsafe.Pointer
	for i := range l[:cap(l)] {
		all = append(all, unsafe.Pointer(&l[:cap(l)][i]))
	}
	for _, x := range l {
		for i, y := range x.Labels {
			all = append(all, unsafe.Pointer(&x.Labels[i]), unsafe.Pointer(unsafe.StringData(y.Name)), unsafe.Pointer(unsafe.StringData(y.Value)))
		}
	}
	for _, p := range all {
		if by, ok := k[p]; ok {
			t.Errorf("%s shares memory with %s", what, by)
		}
		k[p] = what
	}
}

// Rule 2: an answer shares no memory with what was handed in, nor with another
// answer; no two lists of an answer share any.
func TestAnswersAreNewMemory(t *testing.T) {
	s, k := fleet(t), taken{}
	l := rows(strings.Clone("host=ab zone=cd: 5, host=b zone=cd: 6, host=b zone=ef: 7"))
	k.add(t, "what was handed in", l)
	for range 2 {
		for _, order := range orders() {
			k.add(t, "Sort", answer.Sort(order, l...))
		}
		for _, text := range []string{"cpu", "mem{}", "-cpu", "cpu>1", "1<cpu", "cpu+1", "cpu<mem", "cpu+mem", "cpu+on(host)mem", "sum by(host)(cpu)", "topk(2,mem)", "last_over(mem[1h])", "7", "-7"} {
			got, e := answer.Eval(s, read(t, text), 1000)
			if e != api.OK || len(got) == 0 {
				t.Errorf("%s: %s %d", text, tell(got), e)
			}
			k.add(t, "Eval "+text, got)
			for _, tail := range []string{"", " order desc", " order asc limit 1", " limit 2"} {
				got, _ := answer.Ask(s, text+tail, 1000)
				k.add(t, "Ask "+text+tail, got)
			}
		}
	}
	// What is done to an answer is not seen in what was measured.
	for _, x := range []string{"cpu", "topk(9,cpu)"} {
		got, _ := answer.Ask(s, x, 1000)
		got[0].Labels[0].Value, got[0].V = "turned", 0
		answers(t, s, "cpu", 1000, "host=a metric=cpu: 4, host=b metric=cpu: 8")
	}
}
