package store_test

import (
	"math"
	"reflect"
	"slices"
	"strconv"
	"strings"
	"testing"
	"unsafe"

	"leporello/api"
	"leporello/label"
	"leporello/store"
)

const (
	most = api.MaxV
	late = api.MaxT
)

// labels tells labels of names and values in turn.
func labels(pairs ...string) []api.Label {
	var l []api.Label
	for i := 0; i+1 < len(pairs); i += 2 {
		l = append(l, api.Label{Name: pairs[i], Value: pairs[i+1]})
	}
	return l
}

// cpu tells the labels of a metric at a host; "": at none.
func cpu(host string) []api.Label {
	if host == "" {
		return labels(api.Metric, "cpu")
	}
	return labels("host", host, api.Metric, "cpu")
}

// numbered tells the labels of the metric number n; they rise with n.
func numbered(n int) []api.Label { return labels(api.Metric, "m"+strconv.Itoa(100+n)) }

// at tells points of times and numbers, one behind the other.
func at(x ...int) []api.Point {
	var l []api.Point
	for i := 0; i+1 < len(x); i += 2 {
		l = append(l, api.Point{T: x[i], V: x[i+1]})
	}
	return l
}

// many tells n points.
func many(n int) []api.Point {
	var l []api.Point
	for i := range n {
		l = append(l, api.Point{T: i, V: -i})
	}
	return l
}

// of tells a series of some labels and points.
func of(l []api.Label, x ...int) api.Series { return api.Series{Labels: l, Points: at(x...)} }

// alike tells whether two lists of series say the same.
func alike(a, b []api.Series) bool {
	return slices.EqualFunc(a, b, func(x, y api.Series) bool {
		return slices.Equal(x.Labels, y.Labels) && slices.Equal(x.Points, y.Points)
	})
}

// deep tells series that share nothing with these but their texts.
func deep(l []api.Series) []api.Series {
	var all []api.Series
	for _, x := range l {
		all = append(all, api.Series{Labels: slices.Clone(x.Labels), Points: slices.Clone(x.Points)})
	}
	return all
}

// count tells how many points series have.
func count(l []api.Series) int {
	n := 0
	for _, x := range l {
		n += len(x.Points)
	}
	return n
}

// holds holds all that a store tells of what it has against that.
func holds(t *testing.T, s *store.Store, want []api.Series) {
	t.Helper()
	if got := s.All(); !alike(got, want) {
		t.Fatalf("All: %v, not %v", got, want)
	}
	if got := s.Points(); got != count(want) {
		t.Fatalf("Points: %d, not %d", got, count(want))
	}
	if got := s.Copy().All(); !alike(got, want) {
		t.Fatalf("All of the Copy: %v, not %v", got, want)
	}
	if got, e := s.Select(); e != api.OK || !alike(got, want) {
		t.Fatalf("Select of no matcher: %v, %d, not %v", got, e, want)
	}
}

// put puts points in, which must go.
func put(t *testing.T, s *store.Store, l []api.Label, x ...int) {
	t.Helper()
	for _, p := range at(x...) {
		if e := s.Put(l, p.T, p.V); e != api.OK {
			t.Fatalf("Put(%q, %d, %d): %d", l, p.T, p.V, e)
		}
	}
}

// refuses holds that a point does not go in, and that nothing comes of it.
func refuses(t *testing.T, s *store.Store, l []api.Label, time, v int, want api.Errno) {
	t.Helper()
	had := s.All()
	if e := s.Put(l, time, v); e != want {
		t.Errorf("Put(%q, %d, %d): %d, not %d", l, time, v, e, want)
	}
	holds(t, s, had)
}

// P601
func TestStaleIsFiveMinutes(t *testing.T) {
	if store.Stale != 300 {
		t.Errorf("Stale: %d", store.Stale)
	}
}

// P601
func TestZeroStoreIsEmpty(t *testing.T) {
	var s store.Store
	holds(t, &s, nil)
	put(t, &s, cpu("a"), 0, 0)
	holds(t, &s, []api.Series{of(cpu("a"), 0, 0)})
	none, e := store.Of()
	if e != api.OK || none == nil {
		t.Fatalf("Of(): %v, %d", none, e)
	}
	holds(t, none, nil)
	put(t, none, cpu("a"), late, most)
	holds(t, none, []api.Series{of(cpu("a"), late, most)})
}

// P601: by labels, whatever came first.
func TestPut(t *testing.T) {
	var s store.Store
	put(t, &s, cpu("b"), 5, 1, 6, -most)
	put(t, &s, cpu(""), 0, most)
	put(t, &s, cpu("a"), 9, 3)
	put(t, &s, labels("_", "z", api.Metric, "cpu"), 7, 7)
	put(t, &s, cpu("b"), 7, 1, late, 2)
	put(t, &s, cpu("a"), 10, 3)
	put(t, &s, labels("host", "a", api.Metric, "cpu", "zone", "\xff\n"), 1, 1)
	put(t, &s, labels("host", "a", "metre", "x", api.Metric, "mem"), 1, 1)
	holds(t, &s, []api.Series{
		of(labels("_", "z", api.Metric, "cpu"), 7, 7),
		of(labels("host", "a", "metre", "x", api.Metric, "mem"), 1, 1),
		of(cpu("a"), 9, 3, 10, 3),
		of(labels("host", "a", api.Metric, "cpu", "zone", "\xff\n"), 1, 1),
		of(cpu("b"), 5, 1, 6, -most, 7, 1, late, 2),
		of(cpu(""), 0, most),
	})
}

// wrongLabels are labels that no series has.
func wrongLabels() [][]api.Label {
	return [][]api.Label{
		nil, {}, labels("host", "a"), labels("Metric", "cpu"), labels("metrics", "cpu"), labels("metri", "cpu"), // no metric
		labels(api.Metric, ""), labels(api.Metric, strings.Repeat("x", api.MaxValue+1)), labels(api.Metric, "cpu", "zone", ""),
		labels(api.Metric, "cpu", "host", "a"), labels(api.Metric, "cpu", api.Metric, "cpu"), labels(api.Metric, "cpu", api.Metric, "mem"), // they do not rise
		labels("1", "a", api.Metric, "cpu"), labels("", "a", api.Metric, "cpu"), labels("a-b", "a", api.Metric, "cpu"), labels(strings.Repeat("a", api.MaxName+1), "a", api.Metric, "cpu"),
		labels("a", "1", "b", "1", "c", "1", "d", "1", "e", "1", "f", "1", "g", "1", "h", "1", api.Metric, "cpu"), // one too many
	}
}

// P601: what may not be comes ahead of all that the store has.
func TestPutOfWrongArguments(t *testing.T) {
	full := fullOfSeries(t)
	one := new(store.Store)
	put(t, one, cpu("a"), 4, 4)
	for _, s := range []*store.Store{{}, one, full} {
		for _, l := range wrongLabels() {
			refuses(t, s, l, 1, 1, api.ErrArg)
		}
		for _, time := range []int{-1, late + 1, math.MinInt, math.MaxInt} {
			refuses(t, s, cpu("a"), time, 1, api.ErrArg)
			refuses(t, s, cpu("z"), time, 1, api.ErrArg)
		}
		for _, v := range []int{most + 1, -most - 1, math.MinInt, math.MaxInt} {
			refuses(t, s, cpu("a"), 9, v, api.ErrArg)
			refuses(t, s, cpu("a"), 4, v, api.ErrArg)
			refuses(t, s, cpu("z"), 9, v, api.ErrArg)
		}
	}
}

// P601
func TestPutTwice(t *testing.T) {
	var s store.Store
	put(t, &s, cpu("a"), 10, 1, 20, 2)
	put(t, &s, cpu("b"), 5, 1)
	for _, time := range []int{0, 9, 10, 11, 19, 20} {
		refuses(t, &s, cpu("a"), time, 2, api.ErrTwice)
	}
	put(t, &s, cpu("a"), 21, 2)
	put(t, &s, cpu("b"), 6, 1)
	put(t, &s, cpu("c"), 0, 1)
	refuses(t, &s, cpu("c"), 0, 2, api.ErrTwice)
	put(t, &s, cpu("c"), late, 1)
	refuses(t, &s, cpu("c"), late, 1, api.ErrTwice)
}

// fullOfSeries tells a store that has MaxSeries series of a point at 4; one is
// that of cpu at a.
func fullOfSeries(t *testing.T) *store.Store {
	t.Helper()
	s := new(store.Store)
	put(t, s, cpu("a"), 4, 4)
	for i := range api.MaxSeries - 1 {
		put(t, s, numbered(i), 4, 4)
	}
	return s
}

// P601
func TestPutFull(t *testing.T) {
	s := fullOfSeries(t)
	if n := len(s.All()); n != api.MaxSeries {
		t.Fatalf("%d series", n)
	}
	refuses(t, s, cpu("z"), 4, 4, api.ErrFull)
	refuses(t, s, cpu(""), 9, 4, api.ErrFull)
	refuses(t, s, numbered(3), 4, 4, api.ErrTwice)
	put(t, s, numbered(3), 5, 5) // no new one
	for i := 5; i < 4+api.MaxPoints; i++ {
		put(t, s, cpu("a"), i, i)
	}
	refuses(t, s, cpu("a"), 4+api.MaxPoints, 0, api.ErrFull)
	refuses(t, s, cpu("a"), late, 0, api.ErrFull)
	refuses(t, s, cpu("a"), 3+api.MaxPoints, 0, api.ErrTwice) // the first of the two that fit
	refuses(t, s, cpu("a"), 0, 0, api.ErrTwice)
	put(t, s, numbered(3), late, 5)
	if n := s.Points(); n != api.MaxSeries+2+api.MaxPoints-1 {
		t.Errorf("Points: %d", n)
	}
}

// P601: all that there may be.
func TestAllThatThereMayBe(t *testing.T) {
	var all []api.Series
	for i := range api.MaxSeries {
		all = append(all, api.Series{Labels: numbered(i), Points: many(api.MaxPoints)})
	}
	s, e := store.Of(all...)
	if e != api.OK {
		t.Fatal(e)
	}
	holds(t, s, all)
	var by store.Store
	for _, p := range many(api.MaxPoints) {
		for _, x := range slices.Backward(all) {
			put(t, &by, x.Labels, p.T, p.V)
		}
	}
	holds(t, &by, all)
	refuses(t, s, numbered(0), late, 0, api.ErrFull)
	refuses(t, s, cpu("a"), 0, 0, api.ErrFull)
}

// P601
func TestOf(t *testing.T) {
	eight := labels("a", "1", "b", "1", "c", "1", "d", "1", "e", "1", "f", "1", "g", "1", api.Metric, strings.Repeat("x", api.MaxValue))
	for _, l := range [][]api.Series{
		nil, {}, {of(cpu("a"), 0, 0)}, {of(cpu("a"), 0, -most, late, most), of(cpu("b"), 0, 0), of(cpu(""), 3, 3)}, {of(eight, 1, 1)},
		{of(labels(api.Metric, "a"), 1, 1), of(labels(api.Metric, "a", "zone", "b"), 1, 1), of(labels(api.Metric, "aa"), 1, 1)},
		{{Labels: cpu("a"), Points: many(api.MaxPoints)}},
	} {
		s, e := store.Of(l...)
		if e != api.OK {
			t.Errorf("Of(%v): %d", l, e)
			continue
		}
		holds(t, s, l)
		for _, x := range l {
			refuses(t, s, x.Labels, x.Points[len(x.Points)-1].T, 0, api.ErrTwice)
		}
	}
}

// P601
func TestOfRefuses(t *testing.T) {
	a, b := of(cpu("a"), 1, 1), of(cpu("b"), 1, 1)
	wrong := [][]api.Series{
		{b, a}, {a, a}, {a, b, b}, {a, b, a}, {of(cpu(""), 1, 1), a}, // they do not rise
		{of(cpu("a"))}, {a, {Labels: cpu("b"), Points: []api.Point{}}}, {{}}, // no points
		{of(cpu("a"), -1, 0)}, {of(cpu("a"), late+1, 0)}, {of(cpu("a"), 0, most+1)}, {of(cpu("a"), 0, -most-1)}, {of(cpu("a"), 1, 1, 1, 1)}, {of(cpu("a"), 2, 1, 1, 1)}, {a, of(cpu("b"), 2, 1, 1, 1)}, {{Labels: cpu("a"), Points: many(api.MaxPoints + 1)}},
	}
	for _, l := range wrongLabels() {
		wrong = append(wrong, []api.Series{of(l, 1, 1)}, []api.Series{of(labels("Lead", "a", api.Metric, "a"), 1, 1), of(l, 1, 1)})
	}
	var tooMany []api.Series
	for i := range api.MaxSeries + 1 {
		tooMany = append(tooMany, of(numbered(i), 1, 1))
	}
	for _, l := range append(wrong, tooMany) {
		if s, e := store.Of(l...); s != nil || e != api.ErrArg {
			t.Errorf("Of(%v): %v, %d", l, s, e)
		}
	}
	if _, e := store.Of(tooMany[1:]...); e != api.OK {
		t.Errorf("Of as many as may be: %d", e)
	}
}

// words is a store by the words of the chapter alone.
type words []api.Series

// put puts a point in, or tells why not.
func (w *words) put(l []api.Label, time, v int) api.Errno {
	p := api.Point{T: time, V: v}
	i := slices.IndexFunc(*w, func(x api.Series) bool { return label.Same(x.Labels, l) })
	switch {
	case i < 0 && len(*w) == api.MaxSeries:
		return api.ErrFull
	case i < 0:
		*w = append(*w, api.Series{Labels: l, Points: []api.Point{p}})
		slices.SortFunc(*w, func(a, b api.Series) int { return label.Compare(a.Labels, b.Labels) })
		return api.OK
	case slices.ContainsFunc((*w)[i].Points, func(q api.Point) bool { return q.T >= time }):
		return api.ErrTwice
	case len((*w)[i].Points) == api.MaxPoints:
		return api.ErrFull
	}
	(*w)[i].Points = append((*w)[i].Points, p)
	return api.OK
}

// P601: many orders of puts, held against the words.
func TestPutsInManyOrders(t *testing.T) {
	state := uint32(1)
	draw := func(n int) int {
		state = state*1664525 + 1013904223
		return int(state>>8) % n
	}
	for _, kinds := range []int{1, 3, 39, 40, 41, 60} {
		var s store.Store
		var w words
		told := map[api.Errno]int{}
		for i := range 4000 {
			l, time := numbered(draw(kinds)), i/30+draw(8)
			want := w.put(l, time, i)
			if e := s.Put(l, time, i); e != want {
				t.Fatalf("Put(%v, %d): %d, not %d", l, time, e, want)
			}
			told[want]++
			if i%50 == 0 {
				holds(t, &s, w)
			}
		}
		holds(t, &s, w)
		again, e := store.Of(s.All()...)
		if e != api.OK {
			t.Fatalf("Of(All): %d", e)
		}
		holds(t, again, w)
		if told[api.OK] == 0 || told[api.ErrTwice] == 0 || told[api.ErrFull] == 0 {
			t.Errorf("of %d kinds: %v", kinds, told)
		}
	}
}

// P601: a copy goes its own way.
func TestCopyGoesItsOwnWay(t *testing.T) {
	var s store.Store
	put(t, &s, cpu("a"), 1, 1, 2, 2, 3, 3)
	put(t, &s, cpu("c"), 1, 1)
	had := deep(s.All())
	c := s.Copy()
	put(t, c, cpu("a"), 4, 4)
	put(t, c, cpu("b"), 4, 4)
	holds(t, &s, had)
	put(t, &s, cpu("a"), 5, 5)
	put(t, &s, cpu(""), 5, 5)
	holds(t, c, []api.Series{of(cpu("a"), 1, 1, 2, 2, 3, 3, 4, 4), of(cpu("b"), 4, 4), of(cpu("c"), 1, 1)})
	holds(t, &s, []api.Series{of(cpu("a"), 1, 1, 2, 2, 3, 3, 5, 5), of(cpu("c"), 1, 1), of(cpu(""), 5, 5)})
	refuses(t, c, cpu("a"), 4, 4, api.ErrTwice)
}

// P601, P602
func TestNilStore(t *testing.T) {
	var s *store.Store
	if e := s.Put(cpu("a"), 1, 1); e != api.ErrArg {
		t.Errorf("Put: %d", e)
	}
	for _, m := range [][]api.Matcher{nil, {{Name: "host", Op: api.Is, Value: "a"}}, {{}}} {
		if got, e := s.Select(m...); got != nil || e != api.ErrArg {
			t.Errorf("Select: %v, %d", got, e)
		}
	}
	if len(s.All()) != 0 || s.Points() != 0 {
		t.Errorf("%v, %d", s.All(), s.Points())
	}
	c := s.Copy()
	if c == nil {
		t.Fatal("Copy: nil")
	}
	holds(t, c, nil)
	put(t, c, cpu("a"), 1, 1)
	holds(t, c, []api.Series{of(cpu("a"), 1, 1)})
}

// spoil writes into all of series, also behind what they have.
func spoil(l []api.Series) {
	for i := range l {
		for j := range l[i].Labels {
			l[i].Labels[j] = api.Label{Name: "no", Value: "no"}
		}
		for j := range l[i].Points {
			l[i].Points[j] = api.Point{T: 77, V: 77}
		}
		_ = append(l[i].Labels, api.Label{Name: "more", Value: "more"})
		_ = append(l[i].Points, api.Point{T: 78, V: 78})
		l[i] = api.Series{}
	}
	_ = append(l, api.Series{Labels: labels("more", "more")})
}

// Rule 2: an answer is new each time, and nothing is kept of what was handed
// in, nor written into it.
func TestAnswersAreNew(t *testing.T) {
	handed := []api.Series{of(cpu("a"), 1, 1, 2, 2), of(cpu("b"), 1, 1), of(cpu(""), 3, 3)}
	want := deep(handed)
	s, e := store.Of(handed...)
	if e != api.OK || !alike(handed, want) {
		t.Fatalf("%v, %d", handed, e)
	}
	spoil(handed)
	holds(t, s, want)
	spoil(s.All())
	holds(t, s, want)
	m := []api.Matcher{{Name: "host", Op: api.Like, Value: "a|b"}}
	first, _ := s.Select(m...)
	second, _ := s.Select(m...)
	spoil(first)
	holds(t, s, want)
	if !alike(second, want[:2]) || m[0] != (api.Matcher{Name: "host", Op: api.Like, Value: "a|b"}) {
		t.Errorf("%v, %v", second, m)
	}
	spoil(second)
	l := cpu("d")
	put(t, s, l, 9, 9)
	spoil([]api.Series{{Labels: l}})
	holds(t, s, []api.Series{want[0], want[1], of(cpu("d"), 9, 9), want[2]})
}

// Rule 2: nor are texts.
func TestTextsAreNew(t *testing.T) {
	l := cpu(strings.Repeat("h", 20))
	var s store.Store
	put(t, &s, l, 1, 1)
	first, second := s.All(), s.All()
	asked, _ := s.Select()
	of, _ := store.Of(first...)
	places := map[*byte]int{}
	for _, labels := range [][]api.Label{l, first[0].Labels, second[0].Labels, asked[0].Labels, of.All()[0].Labels, s.Copy().All()[0].Labels} {
		for _, x := range labels {
			places[unsafe.StringData(x.Value)]++
			places[unsafe.StringData(x.Name)]++
		}
	}
	for _, n := range places {
		if n > 1 {
			t.Errorf("%v", places)
		}
	}
}

// P602: the chapter's example, and others.
func TestSelect(t *testing.T) {
	all := []api.Series{
		of(labels("host", "a", api.Metric, "cpu"), 1, 1),
		of(labels("host", "a", api.Metric, "mem"), 1, 2),
		of(labels("host", "ab", api.Metric, "cpu"), 1, 3),
		of(labels("host", "b", api.Metric, "cpu", "zone", "é"), 1, 4),
		of(labels("host", "c\xff", api.Metric, "cpu"), 1, 5),
		of(labels(api.Metric, "cpu"), 1, 6),
	}
	s, e := store.Of(all...)
	if e != api.OK {
		t.Fatal(e)
	}
	for _, c := range []struct {
		m    []api.Matcher
		want []int // the numbers of their points
	}{
		{nil, []int{1, 2, 3, 4, 5, 6}},
		{is("host", "a"), []int{1, 2}}, {is("host", "A"), nil}, {is("host", ""), []int{6}}, {is("zone", ""), []int{1, 2, 3, 5, 6}}, {is("none", ""), []int{1, 2, 3, 4, 5, 6}}, {is("none", "a"), nil}, {is("host", "c\xff"), []int{5}}, {is("host", "c\uFFFD"), nil}, {is("host", "a|b"), nil}, {is(api.Metric, "mem"), []int{2}}, {is("host", "*"), nil}, {is("host", strings.Repeat("x", 1000)), nil},
		{not("host", "a"), []int{3, 4, 5, 6}}, {not("host", ""), []int{1, 2, 3, 4, 5}}, {not("zone", "é"), []int{1, 2, 3, 5, 6}}, {not("none", ""), nil}, {not("none", "a"), []int{1, 2, 3, 4, 5, 6}}, {not("host", "c\uFFFD"), []int{1, 2, 3, 4, 5, 6}}, {not("host", "("), []int{1, 2, 3, 4, 5, 6}},
		{like("host", "a|b"), []int{1, 2, 4}}, {like("host", "a"), []int{1, 2}}, {like("host", "a."), []int{3}}, {like("host", "a.*"), []int{1, 2, 3}}, {like("host", ""), []int{6}}, {like("host", ".?"), []int{1, 2, 4, 6}}, {like("host", "c."), []int{5}}, {like("host", "c\uFFFD"), []int{5}}, {like("host", "c\xff"), []int{5}}, {like("zone", "[^a-z]"), []int{4}}, {like("zone", "."), []int{4}}, {like("none", ".*"), []int{1, 2, 3, 4, 5, 6}}, {like("none", ".+"), nil}, {like(api.Metric, "m.m"), []int{2}},
		{unlike("host", "a|b"), []int{3, 5, 6}}, {unlike("host", ".+"), []int{6}}, {unlike("host", ""), []int{1, 2, 3, 4, 5}}, {unlike("none", ".*"), nil}, {unlike("none", "a"), []int{1, 2, 3, 4, 5, 6}}, {unlike("host", "c."), []int{1, 2, 3, 4, 6}},
		{slices.Concat(like("host", "a.*"), is(api.Metric, "cpu")), []int{1, 3}}, {slices.Concat(is(api.Metric, "cpu"), not("host", "a"), unlike("zone", ".")), []int{3, 5, 6}}, {slices.Concat(is("host", "a"), is("host", "ab")), nil}, {slices.Concat(is("host", "a"), is("host", "a")), []int{1, 2}}, {slices.Concat(not("host", "a"), not("host", "b")), []int{3, 5, 6}},
		{slices.Repeat(is("host", "a"), 10), []int{1, 2}}, {append(slices.Repeat(is(api.Metric, "cpu"), 9), is("host", "ab")...), []int{3}},
	} {
		if !store.Right(c.m...) {
			t.Errorf("Right(%v): false", c.m)
		}
		got, e := s.Select(c.m...)
		var want []api.Series
		for _, n := range c.want {
			want = append(want, all[n-1])
		}
		if e != api.OK || !alike(got, want) {
			t.Errorf("Select(%v): %v, %d, not %v", c.m, got, e, want)
		}
	}
}

func is(name, value string) []api.Matcher {
	return []api.Matcher{{Name: name, Op: api.Is, Value: value}}
}

func not(name, value string) []api.Matcher {
	return []api.Matcher{{Name: name, Op: api.IsNot, Value: value}}
}

func like(name, value string) []api.Matcher {
	return []api.Matcher{{Name: name, Op: api.Like, Value: value}}
}

func unlike(name, value string) []api.Matcher {
	return []api.Matcher{{Name: name, Op: api.NotLike, Value: value}}
}

// P602: each matcher may be, or all are refused.
func TestWrongMatchers(t *testing.T) {
	wrong := [][]api.Matcher{
		{{}}, is("", "a"), is("1", "a"), is("a b", "a"), is("a\xff", "a"), is(strings.Repeat("n", api.MaxName+1), "a"), not("", ""), like("", "a"), unlike("-", "a"),
		{{Name: "host", Value: "a"}}, {{Name: "host", Op: 5, Value: "a"}}, {{Name: "host", Op: -1, Value: "a"}}, {{Name: "host", Op: math.MinInt, Value: "a"}}, {{Name: "host", Op: math.MaxInt, Value: "a"}},
	}
	for _, p := range []string{"(", ")", "[", "]", "*", "a**", "\\", "[]", "[b-a]", "a|?", "(a", strings.Repeat("a", api.MaxRegex+1), strings.Repeat("é", api.MaxRegex+1)} {
		wrong = append(wrong, like("host", p), unlike("host", p), like("none", p))
		if !store.Right(is("host", p)...) || !store.Right(not("host", p)...) {
			t.Errorf("Right of Is and IsNot %q: false", p)
		}
	}
	for _, p := range []string{"", "a|b", strings.Repeat("a", api.MaxRegex), strings.Repeat("é", api.MaxRegex)} {
		if !store.Right(like("host", p)...) || !store.Right(unlike(strings.Repeat("é", api.MaxName), p)...) {
			t.Errorf("Right of %q: false", p)
		}
	}
	for _, m := range slices.Clone(wrong) {
		wrong = append(wrong, slices.Concat(is("host", "a"), m), slices.Concat(m, is("host", "a")))
	}
	wrong = append(wrong, slices.Repeat(is("host", "a"), 11), slices.Repeat(is("host", "a"), 200))
	full := fullOfSeries(t)
	for _, m := range wrong {
		if store.Right(m...) {
			t.Errorf("Right(%v): true", m)
		}
		for _, s := range []*store.Store{{}, full} {
			if got, e := s.Select(m...); got != nil || e != api.ErrArg {
				t.Errorf("Select(%v): %v, %d", m, got, e)
			}
		}
	}
	if !store.Right() || !store.Right(slices.Repeat(is("host", "a"), 10)...) {
		t.Error("Right of none, or of ten: false")
	}
}

// P602: asking changes nothing.
func TestSelectChangesNothing(t *testing.T) {
	s := fullOfSeries(t)
	had := s.All()
	for _, m := range [][]api.Matcher{is("host", "a"), not(api.Metric, "m101"), like(api.Metric, "m10."), unlike("host", "a"), {{}}} {
		s.Select(m...)
	}
	if got := s.All(); !reflect.DeepEqual(got, had) {
		t.Errorf("%v, not %v", got, had)
	}
}
