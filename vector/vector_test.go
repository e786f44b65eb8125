package vector_test

import (
	"math"
	"math/rand"
	"slices"
	"strconv"
	"strings"
	"testing"
	"unsafe"

	"leporello/api"
	"leporello/fixed"
	"leporello/label"
	"leporello/vector"
)

const most = api.MaxV

// labels tells labels of a text as a=x b=y, in the order of the text.
func labels(text string) []api.Label {
	var l []api.Label
	for _, pair := range strings.Fields(text) {
		name, value, _ := strings.Cut(pair, "=")
		l = append(l, api.Label{Name: name, Value: value})
	}
	return l
}

// row tells a row of labels as a text, and a number.
func row(text string, v int) api.Row { return api.Row{Labels: labels(text), V: v} }

// rows tells rows of a text as "a=x b=y: 5, a=z: 7".
func rows(text string) []api.Row {
	var l []api.Row
	for _, one := range strings.Split(text, ",") {
		if before, number, ok := strings.Cut(one, ":"); ok {
			v, err := strconv.Atoi(strings.TrimSpace(number))
			if err != nil {
				panic(err)
			}
			l = append(l, row(before, v))
		}
	}
	return l
}

// many tells n rows of one label each, which rise.
func many(n int) []api.Row {
	var l []api.Row
	for i := range n {
		l = append(l, row("n=v"+strconv.Itoa(10000+i), i))
	}
	return l
}

// backwards tells rows from the last one to the first one.
func backwards(l []api.Row) []api.Row {
	l = slices.Clone(l)
	slices.Reverse(l)
	return l
}

// copied tells rows that share nothing with these but their texts.
func copied(l []api.Row) []api.Row {
	var all []api.Row
	for _, x := range l {
		all = append(all, api.Row{Labels: slices.Clone(x.Labels), V: x.V})
	}
	return all
}

// same tells whether two lists of rows say the same.
func same(a, b []api.Row) bool {
	return slices.EqualFunc(a, b, func(x, y api.Row) bool { return x.V == y.V && slices.Equal(x.Labels, y.Labels) })
}

// tell tells rows as a text.
func tell(l []api.Row) string {
	var b strings.Builder
	for _, x := range l {
		b.WriteString(label.Text(x.Labels) + ": " + strconv.Itoa(x.V) + ", ")
	}
	return b.String()
}

// ops tells the ops that reckon, and those that compare.
func ops() ([]string, []string) {
	return strings.Fields("+ - * / %"), strings.Fields("== != < <= > >=")
}

// allOps tells all of them.
func allOps() []string { return slices.Concat(ops()) }

// noOps are texts that are no op.
func noOps() []string {
	return []string{"", " ", "=", "!", "<>", "=<", "=>", "===", "**", "++", "+ ", " +", "+=", "&", "^", "and", "add", "\xff", "\x00", "−", "＋", strings.Repeat("<", 1000)}
}

// wrongNumbers are numbers that are not Right.
func wrongNumbers() []int {
	return []int{most + 1, -most - 1, 2 * most, math.MaxInt, math.MinInt}
}

// wrongLabels are labels that are not Right.
func wrongLabels() [][]api.Label {
	return [][]api.Label{
		labels("b=x a=x"), labels("a=x a=x"), labels("a=x a=y"), labels("a="), labels("=x"), labels("1=x"), labels("a-b=x"), labels("a\xff=x"), labels("a=x b="),
		labels("a=" + strings.Repeat("x", api.MaxValue+1)), labels(strings.Repeat("é", api.MaxName+1) + "=x"), labels("a=1 b=1 c=1 d=1 e=1 f=1 g=1 h=1 i=1"),
	}
}

// unfit are lists of rows that may not be, in whatever order.
func unfit() [][]api.Row {
	all := [][]api.Row{many(api.MaxRows + 1), append(many(api.MaxRows), row("n=v10000", 0)), slices.Repeat([]api.Row{{}}, api.MaxRows+1), many(3 * api.MaxRows)}
	for _, v := range wrongNumbers() {
		all = append(all, []api.Row{row("a=x", v)}, []api.Row{row("", v)}, []api.Row{row("a=x", 1), row("b=x", v)}, []api.Row{row("a=x", v), row("b=x", 1)})
	}
	for _, l := range wrongLabels() {
		all = append(all, []api.Row{{Labels: l, V: 1}}, []api.Row{row("", 1), {Labels: l, V: 1}, row("z=x", 1)})
	}
	return all
}

// disordered are lists of rows that may be, but not in that order, or not
// twice.
func disordered() [][]api.Row {
	return [][]api.Row{
		rows("b=x: 1, a=x: 1"), rows("a=y: 1, a=x: 1"), rows("a=x: 1, : 1"), rows("a=x b=x: 1, a=x: 1"), rows("a=x: 1, b=x: 1, ab=x: 1"),
		rows("a=x: 1, a=x: 1"), rows("a=x: 1, a=x: 2"), rows(": 1, : 1"), rows("a=x: 1, b=x: 1, b=x: 2, c=x: 1"),
		backwards(many(api.MaxRows)), slices.Repeat(rows("a=x: 1"), api.MaxRows),
	}
}

// wrong are lists of rows that are no vector.
func wrong() [][]api.Row { return append(unfit(), disordered()...) }

// right are vectors.
func right() [][]api.Row {
	return [][]api.Row{
		nil, {}, rows(": 0"), rows("a=x: 1"), {{Labels: []api.Label{}, V: 3}},
		rows(": 5, a=x: 4, a=x b=x: 3, a=xy: 2, a=y: 1, ab=x: 0, b=a: -1"), rows("A=x: 1, _=x: 1, a=x: 1, é=x: 1"),
		{row("a=x", most), row("b=x", -most), row("c=x", 0)},
		rows("a=\xff: 1, b=\uFFFD: 1"), rows("a=1 b=1 c=1 d=1 e=1 f=1 g=1 h=1: 1"), rows("host=a metric=cpu: 1, host=b metric=cpu: 1, metric=cpu: 1"),
		{row("a="+strings.Repeat("x", api.MaxValue), 1), row(strings.Repeat("é", api.MaxName)+"=x", 1)},
		many(api.MaxRows), many(api.MaxRows - 1),
	}
}

// is holds what a call answered against rows, or an error.
func is(t *testing.T, what string, got []api.Row, e api.Errno, want []api.Row, wantE api.Errno) {
	t.Helper()
	if e != wantE || !same(got, want) || e != api.OK && got != nil {
		t.Errorf("%s: %s %d, not %s %d", what, tell(got), e, tell(want), wantE)
	}
}

// The words of a vector.
func TestRight(t *testing.T) {
	for _, l := range right() {
		if !vector.Right(l) {
			t.Errorf("Right(%.300s): false", tell(l))
		}
	}
	for _, l := range wrong() {
		if vector.Right(l) {
			t.Errorf("Right(%.300s): true", tell(l))
		}
	}
}

// The words of a vector: of each short list.
func TestRightOfEachShortList(t *testing.T) {
	alphabet := rows(": 1, a=x: 2, a=x: 3, a=x b=x: 4, a=y: 5, b=x: 6, b=x a=x: 7, a=: 8")
	alphabet = append(alphabet, row("c=x", most+1))
	for n := range 5 {
		for at := range int(math.Pow(float64(len(alphabet)), float64(n))) {
			var l []api.Row
			for range n {
				l = append(l, alphabet[at%len(alphabet)])
				at /= len(alphabet)
			}
			want := true
			for i, x := range l {
				want = want && label.Right(x.Labels) && fixed.Right(x.V) && (i == 0 || label.Compare(l[i-1].Labels, x.Labels) == -1)
			}
			if got := vector.Right(l); got != want {
				t.Fatalf("Right(%s): %v", tell(l), got)
			}
			tidy, e := vector.Tidy(l...)
			if e == api.OK && (!vector.Right(tidy) || len(tidy) != len(l)) || want && (e != api.OK || !same(tidy, l)) {
				t.Fatalf("Tidy(%s): %s, %d", tell(l), tell(tidy), e)
			}
		}
	}
}

// P1001
func TestTidy(t *testing.T) {
	for _, c := range []struct{ l, want string }{
		{"", ""}, {": 3", ": 3"}, {"a=x: 3", "a=x: 3"},
		{"b=x: 1, a=x: 2", "a=x: 2, b=x: 1"}, {"a=x: 1, b=x: 2", "a=x: 1, b=x: 2"},
		{"b=x: 1, a=y: 1, a=x b=x: 1, : 1, ab=x: 1, a=x: 1, B=x: 1", ": 1, B=x: 1, a=x: 1, a=x b=x: 1, a=y: 1, ab=x: 1, b=x: 1"},
		{"a=z: -5, a=y: 7, a=x: 0", "a=x: 0, a=y: 7, a=z: -5"}, // by labels, not by numbers
		{"é=x: 1, z=x: 2, a=\U00010000: 3, a=\uFFFC: 4, a=\xff: 5", "a=\uFFFC: 4, a=\U00010000: 3, a=\xff: 5, z=x: 2, é=x: 1"},
		{"metric=cpu: 1, host=a metric=cpu: 2", "host=a metric=cpu: 2, metric=cpu: 1"}, // the metric stays
	} {
		got, e := vector.Tidy(rows(c.l)...)
		is(t, "Tidy of "+c.l, got, e, rows(c.want), api.OK)
	}
	for _, l := range right() {
		got, e := vector.Tidy(l...)
		is(t, "Tidy of a vector", got, e, l, api.OK)
		got, e = vector.Tidy(backwards(l)...)
		is(t, "Tidy of one from behind", got, e, l, api.OK)
	}
}

// P1001
func TestTidyRefuses(t *testing.T) {
	for _, l := range unfit() {
		got, e := vector.Tidy(l...)
		is(t, "Tidy of what may not be", got, e, nil, api.ErrArg)
		// Also where two have the same labels, whichever comes first.
		if len(l) > 0 {
			got, e = vector.Tidy(slices.Concat(l, l)...)
			is(t, "Tidy of what may not be, twice", got, e, nil, api.ErrArg)
		}
		got, e = vector.Tidy(append(rows("a=x: 1, a=x: 1"), l...)...)
		is(t, "Tidy of two alike, and what may not be", got, e, nil, api.ErrArg)
	}
	for _, l := range []string{"a=x: 1, a=x: 1", "a=x: 1, a=x: 2", ": 1, : 0", "a=x: 1, b=x: 2, a=x: 3", "c=x: 1, b=x: 1, a=x: 1, b=x: 2", "a=x b=y: 1, a=x: 1, a=x b=y: 1", "b=\xff: 1, a=x: 1, b=\xff: 1"} {
		got, e := vector.Tidy(rows(l)...)
		is(t, "Tidy of "+l, got, e, nil, api.ErrTwice)
	}
	full := many(api.MaxRows)
	full[0] = full[api.MaxRows-1]
	got, e := vector.Tidy(full...)
	is(t, "Tidy of the first and the last alike", got, e, nil, api.ErrTwice)
}

// P1001
func TestKey(t *testing.T) {
	all := "a=1 b=2 c=3 metric=cpu z=4"
	for _, c := range []struct {
		mode           int
		names, l, want string
	}{
		{0, "", all, "a=1 b=2 c=3 z=4"}, {0, "a b metric", all, "a=1 b=2 c=3 z=4"}, {3, "a", all, "a=1 b=2 c=3 z=4"}, {-1, "a", all, "a=1 b=2 c=3 z=4"}, {math.MaxInt, "a", all, "a=1 b=2 c=3 z=4"}, {math.MinInt, "a", all, "a=1 b=2 c=3 z=4"}, {1<<32 + 1, "a", all, "a=1 b=2 c=3 z=4"}, {257, "a", all, "a=1 b=2 c=3 z=4"},
		{1, "", all, ""}, {1, "b", all, "b=2"}, {1, "z a", all, "a=1 z=4"}, {1, "metric", all, "metric=cpu"}, {1, "metric a", all, "a=1 metric=cpu"}, {1, "b b x A \xff", all, "b=2"},
		{2, "", all, "a=1 b=2 c=3 z=4"}, {2, "b", all, "a=1 c=3 z=4"}, {2, "z a", all, "b=2 c=3"}, {2, "metric", all, "a=1 b=2 c=3 z=4"}, {2, "b b x A \xff", all, "a=1 c=3 z=4"}, {2, "a b c z metric", all, ""},
		{0, "", "metric=cpu", ""}, {2, "", "metric=cpu", ""}, {1, "metric", "metric=cpu", "metric=cpu"}, {0, "", "Metric=a metrics=b", "Metric=a metrics=b"},
		{0, "a", "", ""}, {1, "a", "", ""}, {2, "a", "", ""},
		// Also of labels that are not tidy.
		{0, "", "b=1 metric=x a=2 metric=y b=3", "b=1 a=2 b=3"}, {1, "b metric", "b=1 metric=x a=2 metric=y b=3", "b=1 metric=x metric=y b=3"}, {2, "b", "b=1 metric=x a=2 metric=y b=3", "a=2"},
	} {
		if got := vector.Key(c.mode, strings.Fields(c.names), labels(c.l)); !slices.Equal(got, labels(c.want)) {
			t.Errorf("Key(%d, %s, %s): %q, not %s", c.mode, c.names, c.l, got, c.want)
		}
	}
	if got := vector.Key(1, []string{"", "a"}, []api.Label{{Value: "x"}, {Name: "b", Value: "y"}}); len(got) != 1 || got[0].Value != "x" {
		t.Errorf("Key of no name: %q", got)
	}
}

// P1002
func TestScale(t *testing.T) {
	l := "a=x metric=cpu: 7, a=y: -7, b=x: 0"
	for _, c := range []struct {
		op   string
		v    int
		left bool
		want string
	}{
		{"+", 2, false, "a=x: 9, a=y: -5, b=x: 2"}, {"+", 2, true, "a=x: 9, a=y: -5, b=x: 2"},
		{"-", 2, false, "a=x: 5, a=y: -9, b=x: -2"}, {"-", 2, true, "a=x: -5, a=y: 9, b=x: 2"},
		{"*", -3, false, "a=x: -21, a=y: 21, b=x: 0"}, {"*", -3, true, "a=x: -21, a=y: 21, b=x: 0"},
		{"/", 2, false, "a=x: 3, a=y: -3, b=x: 0"}, {"%", 4, false, "a=x: 3, a=y: -3, b=x: 0"}, {"%", -4, false, "a=x: 3, a=y: -3, b=x: 0"},
		{"==", 7, false, "a=x metric=cpu: 7"}, {"!=", 7, false, "a=y: -7, b=x: 0"}, {"==", 8, true, ""},
		{"<", 0, false, "a=y: -7"}, {"<", 0, true, "a=x metric=cpu: 7"}, {"<=", 0, false, "a=y: -7, b=x: 0"}, {"<=", 0, true, "a=x metric=cpu: 7, b=x: 0"},
		{">", 0, false, "a=x metric=cpu: 7"}, {">", 0, true, "a=y: -7"}, {">=", 0, false, "a=x metric=cpu: 7, b=x: 0"}, {">=", 0, true, "a=y: -7, b=x: 0"},
		{">", most, true, l}, {"<", most, false, l}, {"!=", -most, true, l},
	} {
		got, e := vector.Scale(c.op, rows(l), c.v, c.left)
		is(t, "Scale "+c.op+" "+strconv.Itoa(c.v), got, e, rows(c.want), api.OK)
	}
	for _, left := range []bool{false, true} {
		for _, op := range allOps() {
			for _, none := range [][]api.Row{nil, {}} {
				got, e := vector.Scale(op, none, 0, left)
				is(t, "Scale of no rows", got, e, nil, api.OK)
			}
		}
	}
}

// P1002: the rows are ordered anew, since the metric is gone.
func TestScaleByLabels(t *testing.T) {
	for _, c := range []struct{ l, plus, notOne string }{
		{"metric=a z=1: 1, metric=b y=1: 2", "y=1: 3, z=1: 2", "metric=b y=1: 2"},
		{"a=1 metric=c z=1: 1, a=1 metric=d y=1: 2, metric=b: 3, z=1: 4", ": 4, a=1 y=1: 3, a=1 z=1: 2, z=1: 5", "a=1 metric=d y=1: 2, metric=b: 3, z=1: 4"},
		{"a=1: 1, metric=a: 2", ": 3, a=1: 2", "metric=a: 2"},
		{"metric=a z=3: 1, metric=b z=2: 2, metric=c z=1: 3", "z=1: 4, z=2: 3, z=3: 2", "metric=b z=2: 2, metric=c z=1: 3"},
	} {
		got, e := vector.Scale("+", rows(c.l), 1, false)
		is(t, "Scale + 1 of "+c.l, got, e, rows(c.plus), api.OK)
		got, e = vector.Scale("!=", rows(c.l), 1, true)
		is(t, "Scale != 1 of "+c.l, got, e, rows(c.notOne), api.OK)
	}
}

// P1002
func TestScaleErrors(t *testing.T) {
	big := strconv.Itoa(most)
	for _, c := range []struct {
		op   string
		l    string
		v    int
		left bool
		e    api.Errno
	}{
		{"/", "a=x: 1", 0, false, api.ErrDiv}, {"%", "a=x: 0", 0, false, api.ErrDiv}, {"/", "a=x: 1, b=x: 0", 5, true, api.ErrDiv}, {"%", "a=x: 0, b=x: 1", 5, true, api.ErrDiv}, {"/", "a=x: 1, b=x: 0", 5, false, api.OK},
		{"+", "a=x: 1, b=x: " + big, 1, false, api.ErrOver}, {"-", "a=x: -" + big, 1, false, api.ErrOver}, {"-", "a=x: -" + big, 1, true, api.ErrOver}, {"*", "a=x: " + big, 2, true, api.ErrOver}, {"-", "a=x: " + big, 1, false, api.OK},
		{"+", "metric=a: 1, metric=b: 2", 1, false, api.ErrTwice}, {"-", "metric=a: 1, metric=b: 1", 1, true, api.ErrTwice}, {"+", ": 1, metric=a: 1", 1, false, api.ErrTwice}, {"*", "a=x: 1, a=x metric=cpu: 1", 1, false, api.ErrTwice},
		{"%", "a=x metric=b z=1: 1, a=x metric=c: 3, a=x z=1: 2", 9, true, api.ErrTwice}, // alike, but not one behind the other
		// fixed.Do's error counts, wherever it comes.
		{"/", "metric=a: 1, metric=b: 2", 0, false, api.ErrDiv}, {"/", "metric=a: 1, metric=b: 2, metric=c z=1: 0", 5, true, api.ErrDiv}, {"+", "metric=a: 1, metric=b: 2, metric=c z=1: " + big, 1, false, api.ErrOver},
	} {
		got, e := vector.Scale(c.op, rows(c.l), c.v, c.left)
		if e != c.e || e != api.OK && got != nil {
			t.Errorf("Scale(%s, %s, %d, %v): %s %d, not %d", c.op, c.l, c.v, c.left, tell(got), e, c.e)
		}
	}
	// Where op compares, the rows stay as they are: none are alike then.
	_, compare := ops()
	for _, op := range compare {
		got, e := vector.Scale(op, rows("metric=a: 1, metric=b: 1"), 1, false)
		want := ""
		if slices.Contains([]string{"==", "<=", ">="}, op) {
			want = "metric=a: 1, metric=b: 1"
		}
		is(t, "Scale "+op, got, e, rows(want), api.OK)
	}
}

// P1002: ErrArg comes ahead of all.
func TestScaleOfWrongArguments(t *testing.T) {
	bad := [][]api.Row{nil, rows("a=x: 1"), rows("a=x: 0"), rows("metric=a: 1, metric=b: 2")}
	for _, left := range []bool{false, true} {
		for _, l := range bad {
			for _, op := range noOps() {
				for _, v := range []int{0, 1, most} {
					got, e := vector.Scale(op, l, v, left)
					is(t, "Scale of no op "+op, got, e, nil, api.ErrArg)
				}
			}
			for _, op := range allOps() {
				for _, v := range wrongNumbers() {
					got, e := vector.Scale(op, l, v, left)
					is(t, "Scale of a wrong number", got, e, nil, api.ErrArg)
				}
			}
		}
		for _, l := range wrong() {
			for _, op := range allOps() {
				got, e := vector.Scale(op, l, 0, left)
				is(t, "Scale of no vector", got, e, nil, api.ErrArg)
			}
		}
	}
}

// P1002
func TestNeg(t *testing.T) {
	for _, c := range []struct {
		l, want string
		e       api.Errno
	}{
		{"", "", 0}, {"a=x: 5", "a=x: -5", 0}, {"a=x: -5, b=x: 0", "a=x: 5, b=x: 0", 0}, {": 3", ": -3", 0},
		{"a=x: 1000000000000, b=x: -1000000000000", "a=x: -1000000000000, b=x: 1000000000000", 0},
		{"metric=a z=1: 1, metric=b y=1: 2", "y=1: -2, z=1: -1", 0}, {"metric=a: 4", ": -4", 0},
		{"metric=a: 1, metric=b: 2", "", api.ErrTwice}, {"a=x metric=a: 1, a=x metric=b: 1", "", api.ErrTwice},
	} {
		got, e := vector.Neg(rows(c.l))
		is(t, "Neg of "+c.l, got, e, rows(c.want), c.e)
	}
	for _, l := range wrong() {
		got, e := vector.Neg(l)
		is(t, "Neg of no vector", got, e, nil, api.ErrArg)
	}
}

// P1003
func TestMatch(t *testing.T) {
	for _, c := range []struct {
		op, a, b    string
		mode        int
		names, want string
	}{
		{"+", "a=1: 5", "a=1: 7", 0, "", "a=1: 12"}, // the chapter's example
		{"-", "a=1: 5", "a=1: 7", 0, "", "a=1: -2"}, {"/", "a=1: 9, a=2: 8", "a=1: 2, a=2: -3", 0, "", "a=1: 4, a=2: -2"}, {"%", "a=1: 9", "a=1: 4", 0, "", "a=1: 1"}, {"*", ": 3", ": 4", 0, "", ": 12"},
		{"+", "a=1: 5, a=2: 6, a=3: 7", "a=0: 1, a=1: 10, a=3: 20, a=4: 1", 0, "", "a=1: 15, a=3: 27"}, // of those alone that stand in both
		{"+", "a=1: 5", "a=2: 5", 0, "", ""}, {"+", "a=1: 5", "b=1: 5", 0, "", ""}, {"+", "a=1: 5", "a=1 b=1: 5", 0, "", ""}, {"+", "a=1 b=1: 5", "a=1: 5", 0, "", ""}, {"+", ": 5", "a=1: 5", 0, "", ""},
		{"+", "", "", 0, "", ""}, {"+", "a=1: 5", "", 0, "", ""}, {"+", "", "a=1: 5", 0, "", ""}, {"==", "", "a=1: 5", 0, "", ""}, {"==", "a=1: 5", "", 0, "", ""},
		// the metric doesn't count
		{"+", "a=1 metric=cpu: 5", "a=1 metric=mem: 7", 0, "", "a=1: 12"}, {"+", "a=1 metric=cpu: 5", "a=1: 7", 0, "", "a=1: 12"}, {"+", "metric=cpu: 5", ": 7", 0, "", ": 12"}, {"+", "metric=cpu: 5", "metric=mem: 7", 3, "metric", ": 12"}, {"+", "a=1 metric=cpu: 5", "a=1 metric=mem: 7", -1, "b", "a=1: 12"},
		{"<", "a=1 metric=cpu: 5", "a=1 metric=mem: 7", 0, "", "a=1 metric=cpu: 5"}, // as it is
		{">", "a=1 metric=cpu: 5", "a=1 metric=mem: 7", 0, "", ""}, {"==", "a=1: 5, a=2: 5", "a=1: 5, a=2: 6", 0, "", "a=1: 5"}, {"!=", "a=1: 5, a=2: 5", "a=1: 5, a=2: 6", 0, "", "a=2: 5"}, {"!=", "a=1: 5", "a=2: 6", 0, "", ""},
		{">=", "a=1: 5, a=2: 6, a=3: 7", "a=1: 6, a=2: 6, a=3: 6", 0, "", "a=2: 6, a=3: 7"}, {"<=", "a=1: 5, a=2: 6, a=3: 7", "a=1: 6, a=2: 6, a=3: 6", 0, "", "a=1: 5, a=2: 6"},
		// on
		{"+", "a=1 b=1 metric=cpu: 5", "a=1 b=2: 7", 1, "a", "a=1: 12"}, {"+", "a=1 b=1: 5", "a=1 b=2: 7", 1, "b", ""}, {"+", "a=1 b=1: 5", "c=1: 7", 1, "", ": 12"}, {"+", "a=1: 5", "b=1: 7", 1, "c", ": 12"}, {"+", "a=1: 5", "b=1: 7", 1, "a", ""},
		{"-", "a=1 b=1: 5, a=2 b=1: 6", "a=2 c=1: 1, a=3 c=1: 2", 1, "a", "a=2: 5"}, {"+", "a=1 metric=cpu: 5", "a=1 metric=mem: 7", 1, "metric", ""}, {"+", "a=1 metric=cpu: 5", "a=2 metric=cpu: 7", 1, "metric b", "metric=cpu: 12"},
		{"<", "a=1 b=1 metric=cpu: 5", "a=1 b=2: 7", 1, "a", "a=1 b=1 metric=cpu: 5"}, {"<", "a=1: 5", "b=1: 7", 1, "", "a=1: 5"},
		// ignoring
		{"+", "a=1 b=1 metric=cpu: 5", "a=1 b=2: 7", 2, "b", "a=1: 12"}, {"+", "a=1 b=1: 5", "a=1 b=2: 7", 2, "a", ""}, {"+", "a=1: 5", "b=1: 7", 2, "b a", ": 12"}, {"+", "a=1 metric=cpu: 5", "a=1 metric=mem: 7", 2, "", "a=1: 12"}, {"+", "a=1 metric=cpu: 5", "a=1 metric=mem: 7", 2, "metric", "a=1: 12"}, {"+", "a=1 c=1: 5", "a=1 b=2 c=1: 7", 2, "b", "a=1 c=1: 12"},
		{">", "a=1 b=1 metric=cpu: 9", "a=1 b=2: 7", 2, "b", "a=1 b=1 metric=cpu: 9"},
		// by labels, also where the rows of a stood in another order
		{"+", "metric=a z=1: 1, metric=b y=1: 2", "y=1: 10, z=1: 20", 0, "", "y=1: 12, z=1: 21"}, {"<", "metric=a z=1: 1, metric=b y=1: 2", "y=1: 10, z=1: 20", 0, "", "metric=a z=1: 1, metric=b y=1: 2"},
		{"-", "a=1 b=2: 1, a=2 b=1: 2", "b=1 c=1: 10, b=2 c=1: 20", 1, "b", "b=1: -8, b=2: -19"}, {"-", "a=1 b=2: 1, a=2 b=1: 2", "b=1: 10, b=2: 20", 2, "a", "b=1: -8, b=2: -19"},
		{"!=", "a=1 b=2: 1, a=2 b=1: 2", "b=1 c=1: 10, b=2 c=1: 20", 1, "b", "a=1 b=2: 1, a=2 b=1: 2"},
	} {
		got, e := vector.Match(c.op, rows(c.a), rows(c.b), c.mode, strings.Fields(c.names)...)
		is(t, c.a+" "+c.op+" "+strconv.Itoa(c.mode)+"("+c.names+") "+c.b, got, e, rows(c.want), api.OK)
	}
}

// P1003: keys whose texts look alike are not the same.
func TestMatchOfKeysThatLookAlike(t *testing.T) {
	l := [][]api.Label{
		nil, {{Name: "a", Value: "x"}}, {{Name: "a", Value: "x,b=y"}}, {{Name: "a", Value: `x",b="y`}}, {{Name: "a", Value: `x\",b=\"y`}}, {{Name: "a", Value: "x"}, {Name: "b", Value: "y"}},
		{{Name: "a", Value: "\xff"}}, {{Name: "a", Value: "\xfe"}}, {{Name: "a", Value: "\uFFFD"}}, {{Name: "a", Value: `\xff`}}, {{Name: "a", Value: "\xc3"}}, {{Name: "a", Value: "é"}}, {{Name: "a", Value: "e\u0301"}},
		{{Name: "a", Value: "\n"}}, {{Name: "a", Value: `\n`}}, {{Name: "a", Value: `\`}}, {{Name: "a", Value: `\\`}}, {{Name: "a", Value: `"`}}, {{Name: "a", Value: `\"`}}, {{Name: "a", Value: "}"}}, {{Name: "a", Value: "\x00"}}, {{Name: "a", Value: "x\x00"}}, {{Name: "a", Value: "x "}}, {{Name: "a", Value: "X"}},
		{{Name: "ab", Value: "c"}}, {{Name: "a", Value: "bc"}}, {{Name: "abc", Value: "x"}}, {{Name: "A", Value: "x"}}, {{Name: "é", Value: "x"}}, {{Name: "a", Value: "x=y"}}, {{Name: "ax", Value: "y"}},
	}
	for i, x := range l {
		for j, y := range l {
			var want []api.Row
			if i == j {
				want = []api.Row{{Labels: x, V: 3}}
			}
			got, e := vector.Match("+", []api.Row{{Labels: x, V: 1}}, []api.Row{{Labels: y, V: 2}}, 0)
			is(t, label.Text(x)+" + "+label.Text(y), got, e, want, api.OK)
		}
	}
	var all []api.Row
	for _, x := range l {
		all = append(all, api.Row{Labels: x, V: 1})
	}
	all, e := vector.Tidy(all...)
	is(t, "all of them", all, e, all, api.OK)
	got, e := vector.Match("==", all, all, 2)
	is(t, "all of them and themselves", got, e, all, api.OK)
}

// P1003
func TestMatchErrors(t *testing.T) {
	big := strconv.Itoa(most)
	for _, c := range []struct {
		op, a, b string
		mode     int
		names    string
		e        api.Errno
	}{
		{"/", "a=1: 1", "a=1: 0", 0, "", api.ErrDiv}, {"%", "a=1: 1, a=2: 1", "a=1: 1, a=2: 0", 0, "", api.ErrDiv}, {"/", "a=1: 0", "a=1: 1", 0, "", api.OK}, {"/", "a=1: 1", "a=2: 0", 0, "", api.OK}, // only of those that stand in both
		{"+", "a=1: 1, a=2: " + big, "a=2: 1", 0, "", api.ErrOver}, {"-", "a=1: -" + big, "a=1: 1", 0, "", api.ErrOver}, {"-", "a=1: " + big, "a=1: 1", 0, "", api.OK}, {"*", "a=1: " + big, "a=1: " + big, 0, "", api.ErrOver}, {"+", "a=1: " + big, "a=2: " + big, 0, "", api.OK},
		// two of a, two of b
		{"+", "a=1 metric=x: 1, a=1 metric=y: 1", "a=1: 1", 0, "", api.ErrTwice}, {"+", "a=1: 1", "a=1 metric=x: 1, a=1 metric=y: 1", 0, "", api.ErrTwice}, {"+", "a=1: 1, a=1 metric=y: 1", "", 0, "", api.ErrTwice}, {"+", "", "a=1: 1, a=1 metric=y: 1", 0, "", api.ErrTwice},
		{"+", "a=1 metric=x: 1, a=1 metric=y: 1", "a=2: 1", 0, "", api.ErrTwice}, {"+", "a=2: 1", "a=1 metric=x: 1, a=1 metric=y: 1", 0, "", api.ErrTwice}, {"+", "metric=x: 1, metric=y: 2, metric=z: 3", "b=1: 1", 0, "", api.ErrTwice},
		{"*", "a=1 b=1: 1, a=1 b=2: 1", "a=1: 1", 1, "a", api.ErrTwice}, {"*", "a=1: 1, a=2: 1", "a=1: 1", 1, "", api.ErrTwice}, {"*", "a=1: 1", "a=1: 1, b=1: 1", 1, "c", api.ErrTwice}, {"*", "a=1 b=1: 1, a=1 b=2: 1", "a=1: 1", 1, "b a", api.OK}, {"*", "a=1 b=1: 1, a=2 b=1: 2, a=3 b=1: 1", "b=1: 1", 1, "b", api.ErrTwice},
		{"*", "a=1 b=1: 1, a=1 b=2: 1", "a=1: 1", 2, "b", api.ErrTwice}, {"*", "a=1: 1", "a=1 b=1: 1, a=1 b=2: 1", 2, "b", api.ErrTwice}, {"*", "a=1 b=1: 1, a=1 b=2: 1", "a=1: 1", 2, "a", api.OK}, {"*", "a=1: 1, a=1 b=2: 1, a=2: 1", "a=3: 1", 2, "b", api.ErrTwice}, {"*", "a=1 b=1: 1, a=2 c=1: 1, a=3 b=1: 1", "", 2, "a", api.ErrTwice},
		{"==", "a=1 metric=x: 1, a=1 metric=y: 1", "a=1: 1", 0, "", api.ErrTwice}, {"<", "a=2: 1", "a=1 metric=x: 1, a=1 metric=y: 1", 0, "", api.ErrTwice}, // also where op compares
		{"/", "a=1: 1, a=2: 1, a=2 metric=x: 1", "a=1: 0", 0, "", api.ErrTwice}, {"/", "a=1: 1", "a=1: 0, a=2: 1, a=2 metric=x: 1", 0, "", api.ErrTwice}, {"+", "a=1: " + big + ", a=2: 1, a=2 metric=x: 1", "a=1: 1", 0, "", api.ErrTwice}, // ahead of fixed.Do
		{"+", "a=1 metric=x: 1, a=1 metric=y: 1", "a=1: 1", 1, "metric", api.OK},
	} {
		got, e := vector.Match(c.op, rows(c.a), rows(c.b), c.mode, strings.Fields(c.names)...)
		if e != c.e || e != api.OK && got != nil {
			t.Errorf("%s %s %d(%s) %s: %s %d, not %d", c.a, c.op, c.mode, c.names, c.b, tell(got), e, c.e)
		}
	}
}

// P1003: ErrArg comes ahead of all.
func TestMatchOfWrongArguments(t *testing.T) {
	fine := [][]api.Row{nil, rows("a=x: 0"), rows("metric=a: 1, metric=b: 2")}
	for mode := range 4 {
		for _, a := range fine {
			for _, b := range fine {
				for _, op := range noOps() {
					got, e := vector.Match(op, a, b, mode, "a")
					is(t, "Match of no op "+op, got, e, nil, api.ErrArg)
				}
			}
			for _, l := range wrong() {
				for _, op := range []string{"+", "/", "=="} {
					got, e := vector.Match(op, a, l, mode, "a")
					is(t, "Match of no vector b", got, e, nil, api.ErrArg)
					got, e = vector.Match(op, l, a, mode, "a")
					is(t, "Match of no vector a", got, e, nil, api.ErrArg)
				}
			}
		}
	}
}

// keyByWords is P1001's Key, asked word by word.
func keyByWords(mode int, names []string, l []api.Label) []api.Label {
	var key []api.Label
	for _, x := range l {
		stands := slices.Contains(names, x.Name)
		switch {
		case mode == 1 && stands, mode == 2 && !stands && x.Name != "metric", mode != 1 && mode != 2 && x.Name != "metric":
			key = append(key, x)
		}
	}
	return key
}

// byLabels tells rows in their order, and whether two have the same labels.
func byLabels(l []api.Row) ([]api.Row, bool) {
	slices.SortFunc(l, func(a, b api.Row) int { return label.Compare(a.Labels, b.Labels) })
	twice := false
	for i, x := range l {
		for _, y := range l[:i] {
			twice = twice || slices.Equal(x.Labels, y.Labels)
		}
	}
	return l, twice
}

// scaleByWords is P1002's Scale of right arguments, asked word by word.
func scaleByWords(op string, l []api.Row, v int, left bool) ([]api.Row, api.Errno) {
	var all []api.Row
	for _, x := range l {
		a, b := x.V, v
		if left {
			a, b = v, x.V
		}
		n, e := fixed.Do(op, a, b)
		switch {
		case e != api.OK:
			return nil, e
		case !fixed.Compares(op):
			all = append(all, api.Row{Labels: keyByWords(0, nil, x.Labels), V: n})
		case n == 1:
			all = append(all, x)
		}
	}
	all, twice := byLabels(all)
	if twice {
		return nil, api.ErrTwice
	}
	return all, api.OK
}

// keyTwice tells whether two rows have the same key.
func keyTwice(l []api.Row, mode int, names []string) bool {
	for i, x := range l {
		for _, y := range l[:i] {
			if slices.Equal(keyByWords(mode, names, x.Labels), keyByWords(mode, names, y.Labels)) {
				return true
			}
		}
	}
	return false
}

// matchByWords is P1003's Match of right arguments, asked word by word.
func matchByWords(op string, a, b []api.Row, mode int, names ...string) ([]api.Row, api.Errno) {
	if keyTwice(a, mode, names) || keyTwice(b, mode, names) {
		return nil, api.ErrTwice
	}
	var all []api.Row
	for _, x := range a {
		key := keyByWords(mode, names, x.Labels)
		for _, y := range b {
			if !slices.Equal(key, keyByWords(mode, names, y.Labels)) {
				continue
			}
			n, e := fixed.Do(op, x.V, y.V)
			switch {
			case e != api.OK:
				return nil, e
			case !fixed.Compares(op):
				all = append(all, api.Row{Labels: key, V: n})
			case n == 1:
				all = append(all, x)
			}
		}
	}
	all, _ = byLabels(all)
	return all, api.OK
}

// chanceNumber tells a number by chance, mostly a small one.
func chanceNumber(r *rand.Rand) int {
	if r.Intn(30) == 0 {
		return []int{most, -most, most - 1, most / 2}[r.Intn(4)]
	}
	return r.Intn(9) - 3
}

// chance tells a vector by chance, of at most n rows.
func chance(r *rand.Rand, n int) []api.Row {
	var l []api.Row
	for range r.Intn(n + 1) {
		x := api.Row{V: chanceNumber(r)}
		for _, name := range []string{"a", "b", api.Metric, "z"} {
			if r.Intn(3) > 0 {
				x.Labels = append(x.Labels, api.Label{Name: name, Value: []string{"x", "y", "\xff"}[r.Intn(3)]})
			}
		}
		if !slices.ContainsFunc(l, func(y api.Row) bool { return slices.Equal(x.Labels, y.Labels) }) {
			l = append(l, x)
		}
	}
	l, _ = byLabels(l)
	return l
}

// P1001, P1002, P1003: of vectors made by chance.
func TestByWords(t *testing.T) {
	r := rand.New(rand.NewSource(10))
	ended := map[api.Errno]int{}
	for range 60000 {
		a, b, op := chance(r, 5), chance(r, 5), allOps()[r.Intn(11)]
		v, left, mode := chanceNumber(r), r.Intn(2) == 0, r.Intn(4)
		var names []string
		for range r.Intn(4) {
			names = append(names, []string{"a", "b", "z", "c", api.Metric}[r.Intn(5)])
		}
		got, e := vector.Scale(op, a, v, left)
		want, wantE := scaleByWords(op, a, v, left)
		is(t, "Scale "+op+" "+strconv.Itoa(v)+" of "+tell(a), got, e, want, wantE)
		if e == api.OK && !vector.Right(got) {
			t.Errorf("Scale tells no vector: %s", tell(got))
		}
		ended[e]++
		got, e = vector.Neg(a)
		want, wantE = scaleByWords("-", a, 0, true)
		is(t, "Neg of "+tell(a), got, e, want, wantE)
		got, e = vector.Match(op, a, b, mode, names...)
		want, wantE = matchByWords(op, a, b, mode, names...)
		is(t, tell(a)+op+" "+strconv.Itoa(mode)+strings.Join(names, " ")+" "+tell(b), got, e, want, wantE)
		if e == api.OK && !vector.Right(got) {
			t.Errorf("Match tells no vector: %s", tell(got))
		}
		ended[e]++
		shuffled := slices.Clone(a)
		r.Shuffle(len(a), func(i, j int) { shuffled[i], shuffled[j] = shuffled[j], shuffled[i] })
		got, e = vector.Tidy(shuffled...)
		is(t, "Tidy of "+tell(shuffled), got, e, a, api.OK)
		for _, x := range a {
			if got, want := vector.Key(mode, names, x.Labels), keyByWords(mode, names, x.Labels); !slices.Equal(got, want) {
				t.Errorf("Key(%d, %s, %s): %s, not %s", mode, names, label.Text(x.Labels), label.Text(got), label.Text(want))
			}
		}
		if t.Failed() {
			return
		}
	}
	for _, e := range []api.Errno{api.OK, api.ErrDiv, api.ErrOver, api.ErrTwice} {
		if ended[e] < 100 {
			t.Errorf("error %d came %d times alone", e, ended[e])
		}
	}
}

// All promises: of as many rows, labels and bytes as may be.
func TestAsManyAsMayBe(t *testing.T) {
	var l, plus []api.Row
	for i := range api.MaxRows {
		x := api.Row{V: i}
		for at := range api.MaxLabels {
			name := strings.Repeat("é", api.MaxName-1) + string(rune('a'+at))
			x.Labels = append(x.Labels, api.Label{Name: name, Value: strings.Repeat("\xff", api.MaxValue-4) + strconv.Itoa(1000+i)})
		}
		l, plus = append(l, x), append(plus, api.Row{Labels: x.Labels, V: 2 * i})
	}
	if !vector.Right(l) {
		t.Fatal("no vector")
	}
	for mode := range 4 {
		got, e := vector.Match("+", l, copied(l), mode, plus[0].Labels[0].Name)
		want := copied(plus)
		for i, x := range want {
			switch mode {
			case 1:
				want[i].Labels = x.Labels[:1]
			case 2:
				want[i].Labels = x.Labels[1:]
			}
		}
		is(t, "Match of many", got, e, want, api.OK)
		got, e = vector.Match("==", l, copied(l), mode, plus[0].Labels[0].Name)
		is(t, "Match of many", got, e, l, api.OK)
	}
	got, e := vector.Scale("*", l, 2, false)
	is(t, "Scale of many", got, e, plus, api.OK)
	got, e = vector.Tidy(backwards(l)...)
	is(t, "Tidy of many", got, e, l, api.OK)
	got, e = vector.Match("+", l, many(api.MaxRows), 0)
	is(t, "Match of many that have no keys of the others", got, e, nil, api.OK)
}

// Rule 2: nothing writes into what was handed in.
func TestNothingIsWrittenInto(t *testing.T) {
	a, b := rows("metric=a z=1: 1, metric=b y=1: 2"), rows("y=1: 10, z=1: 20")
	keptA, keptB := copied(a), copied(b)
	names := []string{"y", "z", "kept", "kept"}
	l := backwards(a)
	vector.Tidy(l...)
	for mode := range 4 {
		vector.Key(mode, names[:2], a[0].Labels)
		for _, op := range allOps() {
			vector.Match(op, a, b, mode, names[:2]...)
			vector.Match(op, b, a, mode, names[:0]...)
		}
	}
	for _, op := range allOps() {
		vector.Scale(op, a, 1, false)
		vector.Scale(op, a, 1, true)
	}
	vector.Neg(a)
	vector.Right(l)
	if !same(a, keptA) || !same(b, keptB) || !same(l, backwards(keptA)) || !slices.Equal(names, []string{"y", "z", "kept", "kept"}) {
		t.Errorf("handed in, and now %s %s %s %s", tell(a), tell(b), tell(l), names)
	}
}

// Rule 2: an answer shares no memory with what was handed in, nor with another
// answer.
func TestAnswersAreNewMemory(t *testing.T) {
	a := rows(strings.Clone("host=ab zone=cd: 5, host=b zone=cd: 6"))
	taken := map[unsafe.Pointer]string{}
	take := func(what string, l []api.Label) {
		for i, x := range l {
			for _, p := range []unsafe.Pointer{unsafe.Pointer(&l[i]), unsafe.Pointer(unsafe.StringData(x.Name)), unsafe.Pointer(unsafe.StringData(x.Value))} {
				if by, ok := taken[p]; ok {
					t.Errorf("%s shares memory with %s", what, by)
				}
				taken[p] = what
			}
		}
	}
	takeAll := func(what string, l []api.Row, e api.Errno) {
		if len(l) != len(a) || e != api.OK {
			t.Errorf("%s: %s %d", what, tell(l), e)
		}
		for i, x := range l {
			if by, ok := taken[unsafe.Pointer(&l[i])]; ok {
				t.Errorf("%s shares memory with %s", what, by)
			}
			taken[unsafe.Pointer(&l[i])] = what
			take(what, x.Labels)
		}
	}
	b := rows(strings.Clone("host=ab zone=cd: 5, host=b zone=cd: 6"))
	takeAll("what was handed in", a, api.OK)
	takeAll("what was handed in", b, api.OK)
	for range 2 {
		l, e := vector.Tidy(a...)
		takeAll("Tidy", l, e)
		for _, op := range []string{"+", ">="} {
			l, e = vector.Scale(op, a, 1, false)
			takeAll("Scale "+op, l, e)
			l, e = vector.Match(op, a, b, 0)
			takeAll("Match "+op, l, e)
		}
		l, e = vector.Neg(a)
		takeAll("Neg", l, e)
		take("Key", vector.Key(0, nil, a[0].Labels))
		take("Key", vector.Key(1, []string{"host"}, a[0].Labels))
		take("Key", vector.Key(2, []string{"zone"}, a[0].Labels))
	}
}
