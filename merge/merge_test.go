package merge_test

import (
	"math"
	"math/rand"
	"reflect"
	"slices"
	"strconv"
	"strings"
	"testing"
	"unsafe"

	"leporello/answer"
	"leporello/api"
	"leporello/label"
	"leporello/merge"
)

// orders are those of the document, and others, which are as ByLabels.
var orders = []int{api.ByLabels, api.Rising, api.Falling, 3, -1, 1 << 32, math.MaxInt, math.MinInt}

// list reads rows, each a number, or a=VALUE and a number behind a colon.
func list(text string) []api.Row {
	var l []api.Row
	for _, word := range strings.Fields(text) {
		var r api.Row
		value, number, ok := strings.Cut(word, ":")
		if ok {
			r.Labels = []api.Label{{Name: "a", Value: value}}
		} else {
			number = word
		}
		r.V, _ = strconv.Atoi(number)
		l = append(l, r)
	}
	return l
}

// lists reads lists of rows.
func lists(texts ...string) [][]api.Row {
	var all [][]api.Row
	for _, text := range texts {
		all = append(all, list(text))
	}
	return all
}

// deep copies lists.
func deep(l [][]api.Row) [][]api.Row {
	var all [][]api.Row
	for _, x := range l {
		var rows []api.Row
		for _, r := range x {
			rows = append(rows, api.Row{Labels: slices.Clone(r.Labels), V: r.V})
		}
		all = append(all, rows)
	}
	return all
}

// alike holds rows against each other; no labels are like a nil list of them.
func alike(a, b []api.Row) bool {
	return slices.EqualFunc(a, b, func(x, y api.Row) bool { return x.V == y.V && slices.Equal(x.Labels, y.Labels) })
}

// first tells of which list the next row is, by the chapter's words: the head
// that no other one comes ahead of, of several that of the first such list.
func first(order int, left [][]api.Row) (int, bool) {
	for i, x := range left {
		if len(x) > 0 && !slices.ContainsFunc(left, func(y []api.Row) bool { return len(y) > 0 && answer.Less(order, y[0], x[0]) }) {
			return i, true
		}
	}
	return 0, false
}

// plain merges by the chapter's words.
func plain(order int, l [][]api.Row) (rows []api.Row, places []int) {
	left := slices.Clone(l)
	for i, ok := first(order, left); ok; i, ok = first(order, left) {
		rows, places = append(rows, left[i][0]), append(places, i)
		left[i] = left[i][1:]
	}
	return rows, places
}

// holds holds Rows and Heads, asked twice, against the chapter's words, and
// what was handed in against what it was.
func holds(t *testing.T, order int, l [][]api.Row) {
	t.Helper()
	kept := deep(l)
	rows, places := plain(order, kept)
	for range 2 {
		if got := merge.Heads(order, l...); !slices.Equal(got, places) {
			t.Fatalf("Heads(%d) of %v: %v, not %v", order, l, got, places)
		}
		if got := merge.Rows(order, l...); !alike(got, rows) {
			t.Fatalf("Rows(%d) of %v: %v, not %v", order, l, got, rows)
		}
	}
	if !slices.EqualFunc(l, kept, alike) {
		t.Fatalf("handed in %v, and now %v", kept, l)
	}
}

// P1701: the chapter's example, heads that are alike, lists that are not in
// order, or have nothing.
func TestHeadsAndRows(t *testing.T) {
	for _, c := range []struct {
		order  int
		l      [][]api.Row
		places []int
		want   string
	}{
		{api.Rising, lists("1 4", "1 2"), []int{0, 1, 1, 0}, "1 1 2 4"},
		{api.Falling, lists("1 4", "1 2"), []int{0, 0, 1, 1}, "1 4 1 2"}, {api.Falling, lists("4 1", "2 1"), []int{0, 1, 0, 1}, "4 2 1 1"},
		{api.ByLabels, lists("1 4", "1 2"), []int{0, 0, 1, 1}, "1 4 1 2"},
		{api.Rising, nil, nil, ""}, {api.Rising, lists(""), nil, ""}, {api.Rising, lists("", "", ""), nil, ""},
		{api.Rising, lists("7"), []int{0}, "7"}, {api.Rising, lists("3 1 2"), []int{0, 0, 0}, "3 1 2"},
		{api.Rising, lists("", "7", ""), []int{1}, "7"}, {api.Rising, lists("", "", "5 6", "", "4"), []int{4, 2, 2}, "4 5 6"},
		{api.Rising, lists("5 1", "3 4"), []int{1, 1, 0, 0}, "3 4 5 1"}, {api.Rising, lists("2 1", "2 1"), []int{0, 0, 1, 1}, "2 1 2 1"}, {api.Rising, lists("9 0 9", "1 8"), []int{1, 1, 0, 0, 0}, "1 8 9 0 9"},
		{api.Rising, lists("1", "1", "1", "1", "1"), []int{0, 1, 2, 3, 4}, "1 1 1 1 1"}, {api.Rising, lists("1 1", "0 1", "1"), []int{1, 0, 0, 1, 2}, "0 1 1 1 1"},
		{api.Rising, lists("b:1 a:2", "a:1 b:2"), []int{1, 0, 0, 1}, "a:1 b:1 a:2 b:2"}, {api.Falling, lists("b:1", "a:1", "1"), []int{2, 1, 0}, "1 a:1 b:1"},
		{api.ByLabels, lists("a:9 c:1", "b:5 b:4", "2"), []int{2, 0, 1, 1, 0}, "2 a:9 b:5 b:4 c:1"}, {api.ByLabels, lists("a:2", "a:1"), []int{0, 1}, "a:2 a:1"},
		{api.ByLabels, lists("b:1 a:1", "a:2 c:2"), []int{1, 0, 0, 1}, "a:2 b:1 a:1 c:2"}, {api.ByLabels, lists("a9:1", "a10:1", "\xff:1", "é:1"), []int{1, 0, 3, 2}, "a10:1 a9:1 é:1 \xff:1"},
		{api.Rising, lists("9223372036854775807", "-9223372036854775808", "0", "-2"), []int{1, 3, 2, 0}, "-9223372036854775808 -2 0 9223372036854775807"},
		{api.Falling, lists("9223372036854775807", "-9223372036854775808", "0", "-2"), []int{0, 2, 3, 1}, "9223372036854775807 0 -2 -9223372036854775808"},
	} {
		if got := merge.Heads(c.order, c.l...); !slices.Equal(got, c.places) {
			t.Errorf("Heads(%d) of %v: %v, not %v", c.order, c.l, got, c.places)
		}
		if got := merge.Rows(c.order, c.l...); !alike(got, list(c.want)) {
			t.Errorf("Rows(%d) of %v: %v, not %s", c.order, c.l, got, c.want)
		}
		holds(t, c.order, c.l)
	}
}

// P1701: an order that the document does not name is as ByLabels, as Less has it.
func TestOtherOrders(t *testing.T) {
	l := lists("b:1 a:2", "a:3 c:0", "1 d:5", "a:1")
	for _, order := range orders[3:] {
		if got := merge.Heads(order, l...); !slices.Equal(got, merge.Heads(api.ByLabels, l...)) {
			t.Errorf("Heads(%d): %v", order, got)
		}
		if got := merge.Rows(order, l...); !alike(got, merge.Rows(api.ByLabels, l...)) {
			t.Errorf("Rows(%d): %v", order, got)
		}
	}
}

// short tells all lists of at most n of some rows.
func short(n int, of ...api.Row) [][]api.Row {
	all := [][]api.Row{nil}
	for at := 0; at < len(all); at++ {
		if len(all[at]) == n {
			continue
		}
		for _, r := range of {
			all = append(all, append(slices.Clone(all[at]), r))
		}
	}
	return all
}

// P1701: of all short lists, in order or not, however many.
func TestAllShortLists(t *testing.T) {
	long, small := short(3, list("1 2")...), short(1, list("b:1 a:2 2")...)
	for _, a := range long {
		for _, b := range long {
			for _, c := range long {
				holds(t, api.Rising, [][]api.Row{a, b, c})
				holds(t, api.Falling, [][]api.Row{a, b, c})
			}
			holds(t, api.Rising, [][]api.Row{a, b})
		}
	}
	for i := range 1 << 12 { // six lists, each by two bits
		var l [][]api.Row
		for range 6 {
			l = append(l, small[i&3])
			i >>= 2
		}
		for _, order := range orders[:3] {
			holds(t, order, l)
		}
	}
}

// byChance tells n rows; many are alike.
func byChance(r *rand.Rand, n int) []api.Row {
	var l []api.Row
	for range n {
		x := api.Row{V: r.Intn(7) - 3}
		for _, name := range []string{"a", "b", "metric"} {
			if r.Intn(2) > 0 {
				x.Labels = append(x.Labels, api.Label{Name: name, Value: []string{"x", "y", "é", "\xff"}[r.Intn(4)]})
			}
		}
		l = append(l, x)
	}
	return l
}

// P1701: of lists by chance, in order or not.
func TestByChance(t *testing.T) {
	r := rand.New(rand.NewSource(17))
	for i := range 4000 {
		order, kept := orders[r.Intn(len(orders))], r.Intn(3) > 0
		n, most := r.Intn(22), 12
		if i%400 == 0 {
			n, most = 100+r.Intn(60), 30
		}
		var l [][]api.Row
		for range n {
			x := byChance(r, r.Intn(most))
			if kept {
				x = answer.Sort(order, x...)
			}
			l = append(l, x)
		}
		holds(t, order, l)
		if kept {
			inOrder(t, order, l)
		}
	}
}

// inOrder holds what lists in order come to against all their rows, sorted.
func inOrder(t *testing.T, order int, l [][]api.Row) {
	t.Helper()
	got := merge.Rows(order, l...)
	if !merge.InOrder(order, got) {
		t.Fatalf("Rows(%d) of %v: %v", order, l, got)
	}
	if want := answer.Sort(order, slices.Concat(l...)...); !alike(got, want) {
		t.Fatalf("Rows(%d) of %v: %v, not %v", order, l, got, want)
	}
}

// P1702: lists in order come to one that is, of all lengths that cut some rows.
func TestListsInOrder(t *testing.T) {
	r := rand.New(rand.NewSource(1702))
	all := byChance(r, api.MaxRows)
	for _, order := range orders[:4] {
		for _, size := range []int{1, 2, 3, 63, 64, 65, 100, 667, 1000, 1999, 2000} {
			var l [][]api.Row
			for x := range slices.Chunk(all, size) {
				l = append(l, answer.Sort(order, x...))
				if !merge.InOrder(order, l[len(l)-1]) {
					t.Fatalf("InOrder(%d) of %v", order, l[len(l)-1])
				}
			}
			inOrder(t, order, l)
			inOrder(t, order, append(l, nil, l[0], nil))
		}
	}
}

// P1701: a list that is not in order comes to none that is, whatever stands beside it.
func TestListsNotInOrder(t *testing.T) {
	for _, l := range [][][]api.Row{lists("2 1"), lists("2 1", "3"), lists("1 2", "4 3"), lists("", "b:1 a:1")} {
		if got := merge.Rows(api.Rising, l...); merge.InOrder(api.Rising, got) {
			t.Errorf("Rows of %v: %v", l, got)
		}
	}
}

// P1701: InOrder holds two rows one behind the other against each other.
func TestInOrder(t *testing.T) {
	for _, c := range []struct {
		text                      string
		byLabels, rising, falling bool
	}{
		{"", true, true, true}, {"5", true, true, true}, {"5 5", true, true, true}, {"a:5 a:5 a:5", true, true, true},
		{"1 2", true, true, false}, {"2 1", true, false, true}, {"1 2 2 3", true, true, false}, {"3 2 2 1", true, false, true}, {"1 2 1", true, false, false}, {"2 1 2", true, false, false},
		{"1 3 2 4", true, false, false}, {"1 2 3 2", true, false, false}, {"2 1 3 4", true, false, false}, {"-1 0 1", true, true, false}, {"1 0 -1", true, false, true},
		{"a:1 b:1", true, true, true}, {"b:1 a:1", false, false, false}, {"1 a:1", true, true, true}, {"a:1 1", false, false, false}, {"a:1 b:2", true, true, false}, {"a:2 b:1", true, false, true}, {"b:1 a:2", false, true, false}, {"b:2 a:1", false, false, true},
		{"a:1 b:1 c:1 b:1", false, false, false}, {"b:1 a:1 b:1 c:1", false, false, false}, {"a10:1 a9:1", true, true, true}, {"a9:1 a10:1", false, false, false}, {"é:1 \xff:1", true, true, true},
		{"-9223372036854775808 9223372036854775807", true, true, false}, {"9223372036854775807 -9223372036854775808", true, false, true},
	} {
		l := list(c.text)
		for _, order := range orders {
			want := c.byLabels
			switch order {
			case api.Rising:
				want = c.rising
			case api.Falling:
				want = c.falling
			}
			if got := merge.InOrder(order, l); got != want {
				t.Errorf("InOrder(%d) of %s: %t", order, c.text, got)
			}
		}
		if !alike(l, list(c.text)) {
			t.Errorf("of %s: now %v", c.text, l)
		}
	}
}

// P1701: of lists by chance, InOrder is just what Sort leaves as it is.
func TestInOrderByChance(t *testing.T) {
	r := rand.New(rand.NewSource(171))
	for range 4000 {
		order, l := orders[r.Intn(len(orders))], byChance(r, r.Intn(6))
		sorted := answer.Sort(order, l...)
		if got, want := merge.InOrder(order, l), alike(l, sorted); got != want {
			t.Fatalf("InOrder(%d) of %v: %t", order, l, got)
		}
		if !merge.InOrder(order, sorted) {
			t.Fatalf("InOrder(%d) of %v", order, sorted)
		}
	}
}

// P1701: rows that may not be are merged as they stand.
func TestOddRows(t *testing.T) {
	many := make([]api.Label, 20)
	odd := []api.Row{
		{Labels: []api.Label{{Name: "b", Value: "1"}, {Name: "a", Value: ""}}, V: 1}, {Labels: []api.Label{{}, {}}, V: 1},
		{Labels: many, V: 1}, {Labels: []api.Label{{Name: "a", Value: "1"}, {Name: "a", Value: "1"}}, V: math.MaxInt},
		{Labels: []api.Label{{Name: strings.Repeat("n", 99), Value: strings.Repeat("\xff", 999)}}, V: math.MinInt}, {Labels: []api.Label{}, V: 1}, {V: 1},
	}
	for _, order := range orders {
		for i := range odd {
			holds(t, order, [][]api.Row{odd[i:], odd[:i], odd})
		}
	}
}

// P1701: many lists, and lists that are one and the same memory.
func TestManyLists(t *testing.T) {
	const n = 1 << 16
	one := list("1 1")
	l := make([][]api.Row, n)
	for i := range l {
		if i%3 > 0 {
			l[i] = one[i%2:]
		}
	}
	var want []int
	for i := range n {
		for range l[i] {
			want = append(want, i)
		}
	}
	if got := merge.Heads(api.Rising, l...); !slices.Equal(got, want) {
		t.Errorf("%d heads, not %d", len(got), len(want))
	}
	if got := merge.Rows(api.Falling, l...); len(got) != len(want) {
		t.Errorf("%d rows, not %d", len(got), len(want))
	}
	same := list("1 2 3")
	holds(t, api.Rising, [][]api.Row{same, same, same[1:], same[:2]})
	holds(t, api.Falling, [][]api.Row{same, same[2:], same})
}

// parts tells all memory that rows have.
func parts(l []api.Row) []unsafe.Pointer {
	all := []unsafe.Pointer{unsafe.Pointer(unsafe.SliceData(l))}
	for _, r := range l {
		all = append(all, unsafe.Pointer(unsafe.SliceData(r.Labels)))
		for _, x := range r.Labels {
			all = append(all, unsafe.Pointer(unsafe.StringData(x.Name)), unsafe.Pointer(unsafe.StringData(x.Value)))
		}
	}
	return all
}

// P1701: an answer shares nothing with what was handed in, nor with another one,
// nor two rows of one with each other.
func TestAnswersAreNewMemory(t *testing.T) {
	one := []api.Row{{Labels: []api.Label{{Name: strings.Clone("name"), Value: strings.Clone("value")}, {Name: strings.Clone("other"), Value: strings.Clone("text")}}, V: 3}}
	l := [][]api.Row{one, nil, one, one}
	a, b := merge.Rows(api.Rising, l...), merge.Rows(api.Rising, l...)
	all := slices.Concat(parts(one), parts(a), parts(b))
	for i, x := range all {
		if slices.Contains(all[:i], x) {
			t.Fatalf("part %d is shared", i)
		}
	}
	a[0].Labels[0], a[1].Labels, a[2].V = api.Label{}, nil, 9
	if !alike(b, slices.Concat(one, one, one)) || one[0].V != 3 || !reflect.DeepEqual(one[0].Labels, b[0].Labels) {
		t.Errorf("%v, %v, %v", a, b, one)
	}
	x, y := merge.Heads(api.Rising, l...), merge.Heads(api.Rising, l...)
	x[0], x[1] = 9, 9
	if !slices.Equal(y, []int{0, 2, 3}) || label.Get(one[0].Labels, "name") != "value" {
		t.Errorf("%v, %v", y, one)
	}
}
