package group_test

import (
	"math"
	"math/big"
	"math/rand"
	"slices"
	"strconv"
	"strings"
	"testing"
	"unsafe"

	"leporello/api"
	"leporello/group"
	"leporello/label"
	"leporello/parse"
	"leporello/vector"
)

const (
	most    = api.MaxV
	mostRow = api.MaxRows
)

// labels tells labels of a text as a=x b=y, in the order of the text.
func labels(text string) []api.Label {
	var l []api.Label
	for _, pair := range strings.Fields(text) {
		name, value, _ := strings.Cut(pair, "=")
		l = append(l, api.Label{Name: name, Value: value})
	}
	return l
}

// rows tells rows of a text as "a=x b=y: 5, a=z: 7", in the order of the text;
// M stands for the greatest number.
func rows(text string) []api.Row {
	var l []api.Row
	for _, one := range strings.Split(text, ",") {
		if before, number, ok := strings.Cut(one, ":"); ok {
			v, err := strconv.Atoi(strings.ReplaceAll(strings.TrimSpace(number), "M", strconv.Itoa(most)))
			if err != nil {
				panic(err)
			}
			l = append(l, api.Row{Labels: labels(before), V: v})
		}
	}
	return l
}

// groups tells groups of a text as "a=x: 5, a=y: 6 | b=x: 7".
func groups(text string) [][]api.Row {
	var all [][]api.Row
	for _, one := range strings.Split(text, "|") {
		if strings.TrimSpace(one) != "" {
			all = append(all, rows(one))
		}
	}
	return all
}

// tell tells rows as a text.
func tell(l []api.Row) string {
	var b strings.Builder
	for _, x := range l {
		b.WriteString(label.Text(x.Labels) + ": " + strconv.Itoa(x.V) + ", ")
	}
	return b.String()
}

// tellGroups tells groups as a text.
func tellGroups(l [][]api.Row) string {
	var b strings.Builder
	for _, x := range l {
		b.WriteString(tell(x) + "| ")
	}
	return b.String()
}

// copied tells rows that share nothing with these but their texts.
func copied(l []api.Row) []api.Row {
	var all []api.Row
	for _, x := range l {
		all = append(all, api.Row{Labels: slices.Clone(x.Labels), V: x.V})
	}
	return all
}

// same tells whether two lists of rows say the same.
func same(a, b []api.Row) bool {
	return slices.EqualFunc(a, b, func(x, y api.Row) bool { return x.V == y.V && slices.Equal(x.Labels, y.Labels) })
}

// is holds what Do answered against rows, or an error.
func is(t *testing.T, what string, got []api.Row, e api.Errno, want []api.Row, wantE api.Errno) {
	t.Helper()
	if e != wantE || !same(got, want) || e != api.OK && got != nil {
		t.Errorf("%s: %.600s %d, not %.600s %d", what, tell(got), e, tell(want), wantE)
	}
	if e == api.OK && !vector.Right(got) {
		t.Errorf("%s: no vector: %.600s", what, tell(got))
	}
}

// plain are the aggregations that have no number; aggs are all of them.
func plain() []string { return strings.Fields("sum min max count avg") }
func aggs() []string  { return append(plain(), "topk", "quantile") }

// many tells n rows of two labels, which rise, in groups of ten by a.
func many(n int) []api.Row {
	var l []api.Row
	for i := range n {
		l = append(l, api.Row{Labels: labels("a=" + strconv.Itoa(1000+i/10) + " b=" + strconv.Itoa(i%10)), V: i})
	}
	return l
}

// wrong are lists of rows that are no vector.
func wrong() [][]api.Row {
	all := [][]api.Row{
		rows("b=x: 1, a=x: 1"), rows("a=x: 1, : 1"), rows("a=x b=x: 1, a=x: 1"), // not in order
		rows("a=x: 1, a=x: 1"), rows("a=x: 1, a=x: 2"), rows(": 1, : 1"), // twice
		rows("b=x a=x: 1"), rows("a=x a=y: 1"), rows("a=: 1"), rows("1=x: 1"), rows("a\xff=x: 1"), rows("a=1 b=1 c=1 d=1 e=1 f=1 g=1 h=1 i=1: 1"), // labels
		rows("a=" + strings.Repeat("x", api.MaxValue+1) + ": 1"), rows(strings.Repeat("é", api.MaxName+1) + "=x: 1"), rows("a=x: 1, b=: 1"),
		many(mostRow + 1), slices.Repeat([]api.Row{{}}, mostRow+1),
	}
	for _, v := range []int{most + 1, -most - 1, math.MaxInt, math.MinInt} {
		all = append(all, []api.Row{{V: v}}, []api.Row{{V: 1}, {Labels: labels("a=x"), V: v}})
	}
	return all
}

// P1101
func TestBy(t *testing.T) {
	all := "a=1 b=2 c=3 metric=cpu z=4"
	for _, c := range []struct {
		mode           int
		names, l, want string
	}{
		{1, "", all, ""}, {1, "b", all, "b=2"}, {1, "z a", all, "a=1 z=4"}, {1, "metric", all, "metric=cpu"}, {1, "metric a", all, "a=1 metric=cpu"}, {1, "b b x A \xff", all, "b=2"}, {1, "x", all, ""}, {1, "a", "", ""},
		{2, "", all, "a=1 b=2 c=3 z=4"}, {2, "b", all, "a=1 c=3 z=4"}, {2, "z a", all, "b=2 c=3"}, {2, "metric", all, "a=1 b=2 c=3 z=4"}, {2, "b b x A \xff", all, "a=1 c=3 z=4"}, {2, "a b c z", all, ""}, {2, "", "metric=cpu", ""}, {2, "", "Metric=a metrics=b", "Metric=a metrics=b"}, {2, "a", "", ""},
		{0, "", all, ""}, {0, "a metric", all, ""}, {3, "a", all, ""}, {-1, "a", all, ""}, {-2, "a", all, ""}, {math.MaxInt, "a", all, ""}, {math.MinInt, "a", all, ""}, {1<<32 + 1, "a", all, ""}, {1<<32 + 2, "a", all, ""}, {257, "a", all, ""}, {258, "a", all, ""},
		// Also of labels that are not tidy.
		{1, "b metric", "b=1 metric=x a=2 metric=y b=3", "b=1 metric=x metric=y b=3"}, {2, "b", "b=1 metric=x a=2 metric=y a=3", "a=2 a=3"},
	} {
		if got := group.By(c.mode, strings.Fields(c.names), labels(c.l)); !slices.Equal(got, labels(c.want)) {
			t.Errorf("By(%d, %s, %s): %q, not %s", c.mode, c.names, c.l, got, c.want)
		}
	}
	if got := group.By(1, []string{"", "a"}, []api.Label{{Value: "x"}, {Name: "b", Value: "y"}}); len(got) != 1 || got[0].Value != "x" {
		t.Errorf("By of no name: %q", got)
	}
}

// P1101
func TestSplit(t *testing.T) {
	for _, c := range []struct {
		mode           int
		names, l, want string
	}{
		{0, "", "", ""}, {1, "a", "", ""}, {2, "a", "", ""}, {0, "", ": 3", ": 3"}, {1, "a", ": 3", ": 3"}, {2, "a", ": 3", ": 3"},
		// neither: one group
		{0, "", "a=1: 1, a=2: 2, b=1: 3", "a=1: 1, a=2: 2, b=1: 3"}, {0, "a", "a=1: 1, a=2: 2, b=1: 3", "a=1: 1, a=2: 2, b=1: 3"}, {7, "a b", "a=1: 3, a=2: 2, b=1: 1", "a=1: 3, a=2: 2, b=1: 1"}, {-1, "a", "a=1: 1, a=2: 2", "a=1: 1, a=2: 2"},
		// by
		{1, "", "a=1: 1, a=2: 2", "a=1: 1, a=2: 2"}, {1, "c", "a=1: 1, a=2: 2", "a=1: 1, a=2: 2"}, {1, "a", "a=1: 1, a=2: 2", "a=1: 1 | a=2: 2"},
		{1, "a", "a=1 b=1: 1, a=1 b=2: 2, a=2 b=1: 3", "a=1 b=1: 1, a=1 b=2: 2 | a=2 b=1: 3"}, {1, "b a", "a=1 b=1: 1, a=1 b=2: 2, a=2 b=1: 3", "a=1 b=1: 1 | a=1 b=2: 2 | a=2 b=1: 3"},
		{1, "b", "a=1 b=2: 1, a=1 b=3: 2, a=2 b=1: 3, a=2 b=2: 4, a=3 b=1: 5", "a=2 b=1: 3, a=3 b=1: 5 | a=1 b=2: 1, a=2 b=2: 4 | a=1 b=3: 2"},                                                              // groups by their labels, rows in their order
		{1, "b c", "a=1 b=2: 1, a=1 c=1: 2, a=2: 3, a=3 b=1: 4, a=4 b=1 c=1: 5, a=5 b=2: 6", "a=2: 3 | a=3 b=1: 4 | a=4 b=1 c=1: 5 | a=1 b=2: 1, a=5 b=2: 6 | a=1 c=1: 2"},                                  // who ends first comes first, then by names
		{1, "metric", "a=1 metric=y: 1, a=2 metric=x: 2, a=3 metric=y: 3", "a=2 metric=x: 2 | a=1 metric=y: 1, a=3 metric=y: 3"}, {1, "a", "a=1 metric=x: 1, metric=x: 2", "metric=x: 2 | a=1 metric=x: 1"}, // the metric by its name alone
		{1, "b", "a=1 b=10: 1, a=2 b=9: 2, a=3 b=\xff: 3, a=4 b=é: 4", "a=1 b=10: 1 | a=2 b=9: 2 | a=4 b=é: 4 | a=3 b=\xff: 3"}, // by bytes
		{1, "b", "a=1 b=\xff: 1, a=2 b=\xfe: 2, a=3 b=\uFFFD: 3", "a=3 b=\uFFFD: 3 | a=2 b=\xfe: 2 | a=1 b=\xff: 1"},            // bytes that are no UTF-8 are not alike
		// without
		{2, "", "a=1: 1, a=2: 2", "a=1: 1 | a=2: 2"}, {2, "a", "a=1: 1, a=2: 2", "a=1: 1, a=2: 2"}, {2, "c", "a=1: 1, a=2: 2", "a=1: 1 | a=2: 2"},
		{2, "", "a=1 metric=x: 1, a=1 metric=y: 2, a=2 metric=x: 3", "a=1 metric=x: 1, a=1 metric=y: 2 | a=2 metric=x: 3"}, {2, "metric", "a=1 metric=x: 1, a=1 metric=y: 2, a=2 metric=x: 3", "a=1 metric=x: 1, a=1 metric=y: 2 | a=2 metric=x: 3"},
		{2, "a", "a=1 b=2: 1, a=1 b=3: 2, a=2 b=1: 3, a=2 b=2: 4, a=3: 5", "a=3: 5 | a=2 b=1: 3 | a=1 b=2: 1, a=2 b=2: 4 | a=1 b=3: 2"}, {2, "b a", "a=1 b=2: 1, a=1 c=3: 2, a=2 b=1: 3, b=1 c=3: 4", "a=1 b=2: 1, a=2 b=1: 3 | a=1 c=3: 2, b=1 c=3: 4"},
		{2, "", "a=1: 1, a=1 metric=x: 2, b=1: 3, b=1 metric=x: 4, metric=x: 5", "metric=x: 5 | a=1: 1, a=1 metric=x: 2 | b=1: 3, b=1 metric=x: 4"},
	} {
		if got, want := tellGroups(group.Split(c.mode, strings.Fields(c.names), rows(c.l))), tellGroups(groups(c.want)); got != want {
			t.Errorf("Split(%d, %s, %s): %s, not %s", c.mode, c.names, c.l, got, want)
		}
	}
}

// P1101: of no vector.
func TestSplitOfNoVector(t *testing.T) {
	for _, l := range wrong() {
		for mode := range 4 {
			if got := group.Split(mode, []string{"a"}, l); len(got) != 0 {
				t.Errorf("Split(%d) of %.300s: %.300s", mode, tell(l), tellGroups(got))
			}
		}
	}
}

// P1101: the aggregations that have no number.
func TestPlain(t *testing.T) {
	for _, c := range []struct {
		mode                      int
		names, l                  string
		sum, min, max, count, avg string
	}{
		{2, "host", "a=1 host=x: 5, a=1 host=y: 7", "a=1: 12", "a=1: 5", "a=1: 7", "a=1: 2", "a=1: 6"}, // the chapter's example
		{0, "", "a=1: 5", ": 5", ": 5", ": 5", ": 1", ": 5"}, {1, "a", "a=1: -5", "a=1: -5", "a=1: -5", "a=1: -5", "a=1: 1", "a=1: -5"}, {0, "", "a=1 metric=x: 0", ": 0", ": 0", ": 0", ": 1", ": 0"},
		{0, "a", "a=1: 3, a=2: -8, b=1: 1", ": -4", ": -8", ": 3", ": 3", ": -1"}, {9, "a", "a=1: 3, a=2: 8, b=1: 0", ": 11", ": 0", ": 8", ": 3", ": 3"},
		{1, "a", "a=1 b=1: 4, a=1 b=2: 3, a=2 b=1: -4, a=2 b=2: -3", "a=1: 7, a=2: -7", "a=1: 3, a=2: -4", "a=1: 4, a=2: -3", "a=1: 2, a=2: 2", "a=1: 3, a=2: -3"},                // a mean goes towards 0
		{1, "b", "a=1 b=2: 1, a=2 b=1: 2, a=3 b=2: 3, a=4: 4", ": 4, b=1: 2, b=2: 4", ": 4, b=1: 2, b=2: 1", ": 4, b=1: 2, b=2: 3", ": 1, b=1: 1, b=2: 2", ": 4, b=1: 2, b=2: 2"}, // by labels
		{1, "metric", "a=1 metric=y: 1, a=2 metric=x: 2, a=3 metric=y: 5", "metric=x: 2, metric=y: 6", "metric=x: 2, metric=y: 1", "metric=x: 2, metric=y: 5", "metric=x: 1, metric=y: 2", "metric=x: 2, metric=y: 3"},
		{2, "", "a=1 metric=x: 1, a=1 metric=y: 2, a=2 metric=x: 3", "a=1: 3, a=2: 3", "a=1: 1, a=2: 3", "a=1: 2, a=2: 3", "a=1: 2, a=2: 1", "a=1: 1, a=2: 3"}, {2, "metric a", "a=1 metric=x: 1, a=1 metric=y: 2, a=2 metric=x: 3", ": 6", ": 1", ": 3", ": 3", ": 2"},
		{0, "", "a=1: M, a=2: M, a=3: -M", ": M", ": -M", ": M", ": 3", ": 333333333333"}, {0, "", "a=1: -M, a=2: M, a=3: -M", ": -M", ": -M", ": M", ": 3", ": -333333333333"}, // the whole sum alone counts
		{0, "", "", "", "", "", "", ""}, {1, "a", "", "", "", "", "", ""}, {2, "a", "", "", "", "", "", ""},
	} {
		for i, want := range []string{c.sum, c.min, c.max, c.count, c.avg} {
			// They have no number: it is not asked.
			for _, n := range []int{0, 1, 101, mostRow + 1, -1, math.MaxInt, math.MinInt} {
				got, e := group.Do(plain()[i], n, c.mode, strings.Fields(c.names), rows(c.l))
				is(t, plain()[i]+" "+strconv.Itoa(c.mode)+"("+c.names+") of "+c.l, got, e, rows(want), api.OK)
			}
		}
	}
}

// P1101: sums that are too great, in whichever group.
func TestOver(t *testing.T) {
	for _, c := range []struct {
		mode     int
		names, l string
		e        api.Errno
		avg      string
	}{
		{0, "", "a=1: M, a=2: 1", api.ErrOver, ": 500000000000"}, {0, "", "a=1: -M, a=2: -1", api.ErrOver, ": -500000000000"}, {0, "", "a=1: M, a=2: M", api.ErrOver, ": M"}, {0, "", "a=1: -M, a=2: -M, a=3: -M", api.ErrOver, ": -M"},
		{1, "a", "a=1: M, a=2: 1", api.OK, "a=1: M, a=2: 1"}, {1, "a", "a=1 b=1: M, a=1 b=2: 1, a=2: 1", api.ErrOver, "a=1: 500000000000, a=2: 1"}, {1, "a", "a=1: 1, a=2 b=1: M, a=2 b=2: 2", api.ErrOver, "a=1: 1, a=2: 500000000001"}, {1, "a", "a=1: 1, a=2 b=1: M, a=2 b=2: 2, a=3: 1", api.ErrOver, "a=1: 1, a=2: 500000000001, a=3: 1"},
		{2, "b", "a=1 b=1: M, a=1 b=2: 1", api.ErrOver, "a=1: 500000000000"}, {2, "a", "a=1 b=1: M, a=1 b=2: 1", api.OK, "b=1: M, b=2: 1"},
	} {
		got, e := group.Do("sum", 0, c.mode, strings.Fields(c.names), rows(c.l))
		if e != c.e || e != api.OK && got != nil || e == api.OK && !same(got, rows(c.avg)) {
			t.Errorf("sum %d(%s) of %s: %s %d, not %d", c.mode, c.names, c.l, tell(got), e, c.e)
		}
		got, e = group.Do("avg", 0, c.mode, strings.Fields(c.names), rows(c.l))
		is(t, "avg "+strconv.Itoa(c.mode)+"("+c.names+") of "+c.l, got, e, rows(c.avg), api.OK)
	}
}

// P1101: places of a quantile.
func TestQuantile(t *testing.T) {
	five := "a=1: 9, a=2: -1, a=3: 4, a=4: 4, b=1: M"
	for _, c := range []struct {
		n, mode        int
		names, l, want string
	}{
		{0, 0, "", five, ": -1"}, {1, 0, "", five, ": -1"}, {20, 0, "", five, ": -1"}, {21, 0, "", five, ": 4"}, {40, 0, "", five, ": 4"}, {60, 0, "", five, ": 4"}, {61, 0, "", five, ": 9"}, {80, 0, "", five, ": 9"}, {81, 0, "", five, ": M"}, {99, 0, "", five, ": M"}, {100, 0, "", five, ": M"},
		{0, 0, "", "a=1: 7", ": 7"}, {50, 0, "", "a=1: 7", ": 7"}, {100, 0, "", "a=1: 7", ": 7"}, {50, 0, "", "a=1: 2, a=2: 1", ": 1"}, {51, 0, "", "a=1: 2, a=2: 1", ": 2"},
		{50, 1, "a", "a=1 b=1: 3, a=1 b=2: 1, a=1 b=3: 2, a=2: 5", "a=1: 2, a=2: 5"}, {100, 1, "b", "a=1 b=2: 3, a=2 b=1: 1, a=3 b=2: 7", "b=1: 1, b=2: 7"}, {0, 2, "b", "a=1 b=1 metric=x: 3, a=1 b=2: 1, a=2: 5", "a=1: 1, a=2: 5"},
		{0, 0, "", "", ""}, {100, 1, "a", "", ""},
	} {
		got, e := group.Do("quantile", c.n, c.mode, strings.Fields(c.names), rows(c.l))
		is(t, "quantile "+strconv.Itoa(c.n)+" "+strconv.Itoa(c.mode)+"("+c.names+") of "+c.l, got, e, rows(c.want), api.OK)
	}
}

// P1101: the greatest rows, as they are, by labels.
func TestTopk(t *testing.T) {
	for _, c := range []struct {
		n, mode        int
		names, l, want string
	}{
		{1, 0, "", "a=1 metric=x: 5", "a=1 metric=x: 5"}, {2, 0, "", "a=1: 5", "a=1: 5"}, {mostRow, 0, "", "a=1: 5, a=2: 6", "a=1: 5, a=2: 6"},
		{1, 0, "", "a=1: 1, a=2: 3, a=3: 2", "a=2: 3"}, {2, 0, "", "a=1: 1, a=2: 3, a=3: 2", "a=2: 3, a=3: 2"}, {2, 0, "", "a=1: 2, a=2: 1, a=3: 3", "a=1: 2, a=3: 3"}, {3, 0, "", "a=1: 3, a=2: 2, a=3: 1", "a=1: 3, a=2: 2, a=3: 1"}, {1, 0, "", "a=1: -M, a=2: -1, a=3: -2", "a=2: -1"}, {1, 0, "", "a=1: -M, a=2: M", "a=2: M"},
		// of the same numbers those whose labels come first
		{1, 0, "", "a=1: 1, a=2: 1", "a=1: 1"}, {2, 0, "", "a=1: 1, a=2: 1, a=3: 1", "a=1: 1, a=2: 1"}, {2, 0, "", "a=1: 1, a=2: 1, a=3: 2", "a=1: 1, a=3: 2"}, {3, 0, "", "a=1: 0, a=2: 1, a=3: 2, a=4: 1, a=5: 1", "a=2: 1, a=3: 2, a=4: 1"}, {1, 0, "", ": 4, a=1: 4", ": 4"}, {1, 0, "", "a=1: 4, a=1 b=1: 4, b=1: 4", "a=1: 4"},
		// of each group
		{1, 1, "a", "a=1 b=1: 1, a=1 b=2: 2, a=2 b=1: 0", "a=1 b=2: 2, a=2 b=1: 0"}, {2, 1, "a", "a=1 b=1: 1, a=1 b=2: 2, a=1 b=3: 3, a=2 b=1: 0", "a=1 b=2: 2, a=1 b=3: 3, a=2 b=1: 0"}, {1, 1, "a", "a=1 b=1: 2, a=1 b=2: 2, b=2: 5, b=3: 5", "a=1 b=1: 2, b=2: 5"},
		{1, 2, "a", "a=1 b=1 metric=x: 1, a=1 b=1 metric=y: 2, a=2 b=1: 0, a=2 b=2 metric=x: 7", "a=1 b=1 metric=y: 2, a=2 b=2 metric=x: 7"}, {1, 2, "", "a=1 metric=x: 1, a=1 metric=y: 2, a=2: 0", "a=1 metric=y: 2, a=2: 0"},
		// by labels, not by groups
		{1, 1, "b", "a=1 b=2: 1, a=2 b=1: 2, a=3 b=2: 0, a=4: 9", "a=1 b=2: 1, a=2 b=1: 2, a=4: 9"}, {2, 1, "b", "a=1 b=2: 1, a=2 b=1: 2, a=3 b=2: 3, a=4 b=1: 4, a=5 b=2: 2, a=6 b=1: 1", "a=2 b=1: 2, a=3 b=2: 3, a=4 b=1: 4, a=5 b=2: 2"}, {5, 2, "a", "a=1 b=3: 1, a=2 b=2: 2, a=3 b=1: 3", "a=1 b=3: 1, a=2 b=2: 2, a=3 b=1: 3"},
		{1, 0, "", "", ""}, {mostRow, 1, "a", "", ""},
	} {
		got, e := group.Do("topk", c.n, c.mode, strings.Fields(c.names), rows(c.l))
		is(t, "topk "+strconv.Itoa(c.n)+" "+strconv.Itoa(c.mode)+"("+c.names+") of "+c.l, got, e, rows(c.want), api.OK)
	}
}

// P1101: the numbers that quantile and topk may have, also of no rows.
func TestNumbers(t *testing.T) {
	for _, l := range [][]api.Row{nil, {}, rows("a=1: 1"), rows("a=1: M, a=2: M")} {
		for name, limits := range map[string][2]int{"quantile": {0, 100}, "topk": {1, mostRow}} {
			for _, n := range []int{math.MinInt, -1 << 32, -101, -100, -2, -1, 0, 1, 2, 50, 99, 100, 101, 1999, 2000, 2001, 1 << 32, 1<<32 + 1, math.MaxInt} {
				for mode := range 4 {
					want := api.ErrArg
					if limits[0] <= n && n <= limits[1] {
						want = api.OK
					}
					got, e := group.Do(name, n, mode, []string{"a"}, l)
					if e != want || e != api.OK && got != nil || e == api.OK && (len(got) == 0) != (len(l) == 0) {
						t.Errorf("%s %d of %s: %s %d, not %d", name, n, tell(l), tell(got), e, want)
					}
				}
			}
		}
	}
}

// P1101: names that are no aggregation, also of no rows.
func TestNames(t *testing.T) {
	tried := append(aggs(), "", " ", "Sum", "SUM", "sum ", " sum", "sums", "su", "sum\x00", "mean", "average", "bottomk", "top", "topK", "median", "group", "stddev", "rate", "sum_over", "avg_over", "count_over", "by", "without", "metric", "+", "\xff", "ſum", strings.Repeat("sum", 1000))
	for _, l := range [][]api.Row{nil, rows("a=1: 1"), rows("a=1: M, a=2: M, a=3: -M")} {
		for _, name := range tried {
			for _, n := range []int{0, 1, 50} {
				got, e := group.Do(name, n, 1, []string{"a"}, l)
				want := api.OK
				if !parse.Agg(name) || name == "topk" && n == 0 {
					want = api.ErrArg
				}
				if e != want || e != api.OK && got != nil {
					t.Errorf("%.30q %d of %s: %s %d, not %d", name, n, tell(l), tell(got), e, want)
				}
			}
		}
	}
	for _, name := range aggs() {
		if !parse.Agg(name) {
			t.Errorf("%s is no aggregation", name)
		}
	}
}

// P1101: ErrArg of what is no vector.
func TestDoOfNoVector(t *testing.T) {
	for _, l := range wrong() {
		for _, name := range append(aggs(), "none") {
			for mode := range 4 {
				got, e := group.Do(name, 1, mode, []string{"a"}, l)
				is(t, name+" of no vector", got, e, nil, api.ErrArg)
			}
		}
	}
}

// byByWords is P1101's By, asked word by word.
func byByWords(mode int, names []string, l []api.Label) []api.Label {
	var all []api.Label
	for _, x := range l {
		stands := slices.Contains(names, x.Name)
		if mode == 1 && stands || mode == 2 && !stands && x.Name != "metric" {
			all = append(all, x)
		}
	}
	return all
}

// splitByWords is P1101's Split of a vector, asked word by word.
func splitByWords(mode int, names []string, l []api.Row) [][]api.Row {
	var keys [][]api.Label
	for _, x := range l {
		key := byByWords(mode, names, x.Labels)
		if !slices.ContainsFunc(keys, func(y []api.Label) bool { return slices.Equal(key, y) }) {
			keys = append(keys, key)
		}
	}
	slices.SortFunc(keys, label.Compare)
	all := make([][]api.Row, len(keys))
	for _, x := range l {
		key := byByWords(mode, names, x.Labels)
		at := slices.IndexFunc(keys, func(y []api.Label) bool { return slices.Equal(key, y) })
		all[at] = append(all[at], x)
	}
	return all
}

// oneByWords is the number of a group, asked word by word; false, if it is too
// great.
func oneByWords(name string, n int, g []api.Row) (int, bool) {
	all, rising := new(big.Int), []int{}
	for _, x := range g {
		all.Add(all, big.NewInt(int64(x.V)))
		rising = append(rising, x.V)
	}
	slices.Sort(rising)
	switch name {
	case "sum":
		return int(all.Int64()), all.CmpAbs(big.NewInt(most)) <= 0
	case "avg":
		return int(all.Quo(all, big.NewInt(int64(len(g)))).Int64()), true
	case "min":
		return rising[0], true
	case "max":
		return rising[len(rising)-1], true
	case "count":
		return len(g), true
	}
	// The first place at which n of each 100 stand, or more.
	place := 1
	for place*100 < n*len(g) {
		place++
	}
	return rising[place-1], true
}

// topByWords is the greatest rows of a group, asked word by word: those that
// fewer than n others come ahead of.
func topByWords(n int, g []api.Row) []api.Row {
	var all []api.Row
	for i, x := range g {
		ahead := 0
		for j, y := range g {
			if y.V > x.V || y.V == x.V && j < i {
				ahead++
			}
		}
		if ahead < n {
			all = append(all, x)
		}
	}
	return all
}

// doByWords is P1101's Do of right arguments, asked word by word.
func doByWords(name string, n, mode int, names []string, l []api.Row) ([]api.Row, api.Errno) {
	var all []api.Row
	for _, g := range splitByWords(mode, names, l) {
		if name == "topk" {
			all = append(all, topByWords(n, g)...)
			continue
		}
		v, ok := oneByWords(name, n, g)
		if !ok {
			return nil, api.ErrOver
		}
		all = append(all, api.Row{Labels: byByWords(mode, names, g[0].Labels), V: v})
	}
	slices.SortFunc(all, func(a, b api.Row) int { return label.Compare(a.Labels, b.Labels) })
	return all, api.OK
}

// chance tells a vector by chance, of at most n rows.
func chance(r *rand.Rand, n int) []api.Row {
	var l []api.Row
	for range r.Intn(n + 1) {
		x := api.Row{V: r.Intn(7) - 3}
		if r.Intn(40) == 0 {
			x.V = []int{most, -most, most - 1, most / 2}[r.Intn(4)]
		}
		for _, name := range []string{"a", "b", api.Metric, "z"} {
			if r.Intn(3) > 0 {
				x.Labels = append(x.Labels, api.Label{Name: name, Value: []string{"x", "y", "\xff", "\xfe"}[r.Intn(4)]})
			}
		}
		if !slices.ContainsFunc(l, func(y api.Row) bool { return slices.Equal(x.Labels, y.Labels) }) {
			l = append(l, x)
		}
	}
	slices.SortFunc(l, func(a, b api.Row) int { return label.Compare(a.Labels, b.Labels) })
	return l
}

// P1101: of vectors made by chance.
func TestByWords(t *testing.T) {
	r := rand.New(rand.NewSource(11))
	ended, widest := map[api.Errno]int{}, 0
	for range 60000 {
		l, mode, name := chance(r, 14), r.Intn(4), aggs()[r.Intn(7)]
		n := 1 + r.Intn(4)
		if name == "quantile" {
			n = r.Intn(101)
		}
		var names []string
		for range r.Intn(4) {
			names = append(names, []string{"a", "b", "z", "c", api.Metric}[r.Intn(5)])
		}
		what := strconv.Itoa(mode) + "(" + strings.Join(names, " ") + ") of " + tell(l)
		for _, x := range l {
			if got, want := group.By(mode, names, x.Labels), byByWords(mode, names, x.Labels); !slices.Equal(got, want) {
				t.Fatalf("By %s: %q, not %q", what, got, want)
			}
		}
		split := group.Split(mode, names, l)
		if want := splitByWords(mode, names, l); !slices.EqualFunc(split, want, same) {
			t.Fatalf("Split %s: %s, not %s", what, tellGroups(split), tellGroups(want))
		}
		widest = max(widest, len(split))
		got, e := group.Do(name, n, mode, names, l)
		want, wantE := doByWords(name, n, mode, names, l)
		is(t, name+" "+strconv.Itoa(n)+" "+what, got, e, want, wantE)
		ended[e]++
		if t.Failed() {
			return
		}
	}
	if ended[api.ErrOver] < 100 || ended[api.OK] < 100 || widest < 8 {
		t.Errorf("%d sums too great, %d groups at most", ended[api.ErrOver], widest)
	}
}

// P1101: of as many rows as may be.
func TestAsManyAsMayBe(t *testing.T) {
	l := many(mostRow)
	for _, c := range []struct {
		mode, len, each int
		names           string
	}{{0, 1, mostRow, ""}, {1, 200, 10, "a"}, {1, 10, 200, "b"}, {1, mostRow, 1, "a b"}, {2, 200, 10, "b"}, {2, 10, 200, "a"}, {2, mostRow, 1, ""}, {2, 1, mostRow, "b a"}} {
		names := strings.Fields(c.names)
		got := group.Split(c.mode, names, l)
		if len(got) != c.len || !slices.EqualFunc(got, splitByWords(c.mode, names, l), same) {
			t.Errorf("Split %d(%s): %d groups", c.mode, c.names, len(got))
		}
		for _, name := range aggs() {
			for _, n := range []int{7, 50} {
				got, e := group.Do(name, n, c.mode, names, l)
				want, wantE := doByWords(name, n, c.mode, names, l)
				is(t, name+" of many", got, e, want, wantE)
			}
		}
		all, e := group.Do("topk", c.each, c.mode, names, l)
		is(t, "topk of all", all, e, l, api.OK)
		all, e = group.Do("count", 0, c.mode, names, l)
		if len(all) != c.len || e != api.OK || slices.ContainsFunc(all, func(x api.Row) bool { return x.V != c.each }) {
			t.Errorf("count of many: %.300s %d", tell(all), e)
		}
	}
	all, e := group.Do("topk", mostRow, 0, nil, l)
	is(t, "topk of all", all, e, l, api.OK)
	for i := range l {
		l[i].V = most
	}
	all, e = group.Do("sum", 0, 0, nil, l)
	is(t, "sum of the greatest numbers", all, e, nil, api.ErrOver)
	all, e = group.Do("avg", 0, 0, nil, l)
	is(t, "avg of the greatest numbers", all, e, rows(": M"), api.OK)
}

// Rule 2: nothing writes into what was handed in.
func TestNothingIsWrittenInto(t *testing.T) {
	l := rows("a=1 b=2 metric=y: 1, a=2 b=1 metric=x: 3, a=3 b=2: 2, a=4: 9")
	kept, names := copied(l), []string{"b", "a", "kept", "kept"}
	for mode := range 4 {
		for _, some := range [][]string{names[:0], names[:1], names[:2]} {
			group.By(mode, some, l[0].Labels)
			group.Split(mode, some, l)
			for _, name := range aggs() {
				group.Do(name, 2, mode, some, l)
			}
		}
	}
	if !same(l, kept) || !slices.Equal(names, []string{"b", "a", "kept", "kept"}) {
		t.Errorf("handed in, and now %s %s", tell(l), names)
	}
}

// taken is memory that somebody has, with who.
type taken map[unsafe.Pointer]string

// add tells of each piece of memory of labels that it is had.
func (k taken) add(t *testing.T, what string, l []api.Label) {
	for i, x := range l {
		for _, p := range []unsafe.Pointer{unsafe.Pointer(&l[i]), unsafe.Pointer(unsafe.StringData(x.Name)), unsafe.Pointer(unsafe.StringData(x.Value))} {
			if by, ok := k[p]; ok {
				t.Errorf("%s shares memory with %s", what, by)
			}
			k[p] = what
		}
	}
}

// addRows tells it of rows, and of the room behind them.
func (k taken) addRows(t *testing.T, what string, l []api.Row) {
	for i := range l[:cap(l)] {
		p := unsafe.Pointer(&l[:cap(l)][i])
		if by, ok := k[p]; ok {
			t.Errorf("%s shares memory with %s", what, by)
		}
		k[p] = what
	}
	for _, x := range l {
		k.add(t, what, x.Labels)
	}
}

// Rule 2: an answer shares no memory with what was handed in, nor with another
// answer; no two lists of an answer share any.
func TestAnswersAreNewMemory(t *testing.T) {
	text := strings.Clone("host=ab zone=cd: 5, host=b zone=cd: 6, host=b zone=ef: 7")
	l, k := rows(text), taken{}
	k.addRows(t, "what was handed in", l)
	names := []string{"host"}
	for range 2 {
		for mode := range 3 {
			k.add(t, "By", group.By(mode, names, l[0].Labels))
			split := group.Split(mode, names, l)
			if got := slices.Concat(split...); len(got) != len(l) {
				t.Errorf("Split: %s", tell(got))
			}
			for _, g := range split {
				k.addRows(t, "Split", g)
			}
			for _, name := range aggs() {
				got, e := group.Do(name, 50, mode, names, l)
				if e != api.OK || len(got) == 0 {
					t.Errorf("%s: %s %d", name, tell(got), e)
				}
				k.addRows(t, name, got)
			}
		}
	}
}
