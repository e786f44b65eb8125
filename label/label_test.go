package label_test

import (
	"slices"
	"strconv"
	"strings"
	"testing"
	"unsafe"

	"leporello/api"
	"leporello/label"
)

// labels tells labels of names and values in turn.
func labels(pairs ...string) []api.Label {
	var l []api.Label
	for i := 0; i+1 < len(pairs); i += 2 {
		l = append(l, api.Label{Name: pairs[i], Value: pairs[i+1]})
	}
	return l
}

// numbered tells n labels whose names rise.
func numbered(n int) []api.Label {
	var l []api.Label
	for i := range n {
		l = append(l, api.Label{Name: "n" + strconv.Itoa(100+i), Value: "v"})
	}
	return l
}

// lists tells all lists of at most n labels of these.
func lists(alphabet []api.Label, n int) [][]api.Label {
	all := [][]api.Label{nil}
	for from, round := 0, 0; round < n; round++ {
		end := len(all)
		for _, l := range all[from:end] {
			for _, x := range alphabet {
				all = append(all, append(slices.Clone(l), x))
			}
		}
		from = end
	}
	return all
}

// P201
func TestTidyBringsIntoOrder(t *testing.T) {
	longName := strings.Repeat("é", api.MaxName)
	for _, c := range []struct{ l, want []api.Label }{
		{nil, nil},
		{[]api.Label{}, nil},
		{labels("a", "x"), labels("a", "x")},
		{labels("b", "x", "a", "y"), labels("a", "y", "b", "x")},
		{labels("a", "y", "b", "x"), labels("a", "y", "b", "x")},
		{labels("b", "1", "a", "2", "ab", "3", "A", "4", "_", "5"), labels("A", "4", "_", "5", "a", "2", "ab", "3", "b", "1")}, // by bytes
		{labels("é", "1", "z", "2", "a9", "3", "a", "4"), labels("a", "4", "a9", "3", "z", "2", "é", "1")},
		{labels("\U00010000", "1", "\uFFFC", "2"), labels("\uFFFC", "2", "\U00010000", "1")},
		{labels(api.Metric, "cpu", "host", "a"), labels("host", "a", api.Metric, "cpu")},
		{labels("b", "same", "a", "same"), labels("a", "same", "b", "same")},
		{labels(longName, "x"), labels(longName, "x")},
		{labels("a", strings.Repeat("x", api.MaxValue)), labels("a", strings.Repeat("x", api.MaxValue))},
		{labels("a", strings.Repeat("é", api.MaxValue/2)), labels("a", strings.Repeat("é", api.MaxValue/2))},
		{labels("a", "\xff\x00\n \""), labels("a", "\xff\x00\n \"")}, // a value may have any bytes
	} {
		if got, e := label.Tidy(c.l...); e != api.OK || !slices.Equal(got, c.want) {
			t.Errorf("Tidy(%q): %q, %d, not %q", c.l, got, e, c.want)
		}
	}
}

// P201
func TestTidyRefuses(t *testing.T) {
	for _, l := range [][]api.Label{
		labels("", "x"), labels("1a", "x"), labels("a-b", "x"), labels("a ", "x"), labels("a\xff", "x"), labels("\uFFFD", "x"),
		labels(strings.Repeat("é", api.MaxName+1), "x"),
		labels("a", ""), labels("b", "x", "a", ""),
		labels("a", strings.Repeat("x", api.MaxValue+1)), labels("a", strings.Repeat("é", api.MaxValue/2)+"x"),
		labels("a", "x", "a", "y"), labels("a", "x", "a", "x"), labels("a", "x", "b", "x", "a", "y"), labels("b", "x", "a", "x", "b", "x"),
		labels("a", "x", "b", "x", "9", "x"), // one wrong one is enough
		numbered(api.MaxLabels + 1),
		append(numbered(api.MaxLabels), labels("n100", "v")...),
	} {
		if got, e := label.Tidy(l...); e != api.ErrArg || got != nil {
			t.Errorf("Tidy(%q): %q, %d", l, got, e)
		}
		if label.Right(l) {
			t.Errorf("Right(%q)", l)
		}
	}
}

// P201
func TestTidyOfAsManyAsMayBe(t *testing.T) {
	want := numbered(api.MaxLabels)
	l := slices.Clone(want)
	slices.Reverse(l)
	if got, e := label.Tidy(l...); e != api.OK || !slices.Equal(got, want) {
		t.Errorf("Tidy(%q): %q, %d", l, got, e)
	}
	if !label.Right(want) || label.Right(l) {
		t.Errorf("Right: %v, %v", label.Right(want), label.Right(l))
	}
}

// P201: Right is what Tidy answers, of every short list.
func TestRightIsWhatTidyAnswers(t *testing.T) {
	for _, l := range lists(labels("a", "x", "a", "y", "b", "x", "B", "y", "1", "x", "c", ""), 4) {
		tidy, e := label.Tidy(l...)
		want := e == api.OK && slices.Equal(tidy, l)
		if got := label.Right(l); got != want {
			t.Fatalf("Right(%q): %v", l, got)
		}
		if e == api.OK && (!label.Right(tidy) || len(tidy) != len(l)) {
			t.Fatalf("Tidy(%q): %q", l, tidy)
		}
	}
	if !label.Right(nil) || !label.Right([]api.Label{}) {
		t.Error("no labels are not Right")
	}
}

// P201
func TestCompareAndSame(t *testing.T) {
	for _, c := range []struct {
		a, b []api.Label
		want int
	}{
		{nil, nil, 0}, {nil, []api.Label{}, 0}, {nil, labels("a", "x"), -1},
		{labels("a", "x"), labels("a", "x"), 0},
		{labels("a", "x"), labels("a", "y"), -1}, {labels("a", "x"), labels("a", "xx"), -1}, {labels("a", ""), labels("a", "x"), -1},
		{labels("a", "y"), labels("b", "x"), -1},                     // the name first
		{labels("a", "1", "c", "1"), labels("a", "2", "b", "1"), -1}, // pair by pair
		{labels("a", "1", "b", "2"), labels("a", "1", "c", "1"), -1},
		{labels("a", "x"), labels("a", "x", "b", "x"), -1}, // who ends first
		{labels("a", "x", "b", "x"), labels("b", "x"), -1},
		{labels("a", "bc"), labels("ab", "c"), -1},
		{labels("Z", "x"), labels("a", "x"), -1}, {labels("z", "x"), labels("é", "x"), -1}, // by bytes
		{labels("a", "\uFFFD"), labels("a", "\xff"), -1}, {labels("a", "\uFFFD"), labels("a", "\U00010000"), -1},
		{labels("b", "x", "a", "x"), labels("b", "x", "a", "y"), -1}, // also of what is not tidy
	} {
		if got := label.Compare(c.a, c.b); got != c.want {
			t.Errorf("Compare(%q, %q): %d", c.a, c.b, got)
		}
		if got := label.Compare(c.b, c.a); got != -c.want {
			t.Errorf("Compare(%q, %q): %d", c.b, c.a, got)
		}
		if label.Same(c.a, c.b) != (c.want == 0) || label.Same(c.b, c.a) != (c.want == 0) {
			t.Errorf("Same(%q, %q): %v", c.a, c.b, label.Same(c.a, c.b))
		}
	}
}

// compareByWords is P201's Compare, asked word by word.
func compareByWords(a, b []api.Label) int {
	for i := 0; ; i++ {
		switch {
		case i == len(a) && i == len(b):
			return 0
		case i == len(a):
			return -1
		case i == len(b):
			return 1
		case a[i].Name < b[i].Name || a[i].Name == b[i].Name && a[i].Value < b[i].Value:
			return -1
		case a[i] != b[i]:
			return 1
		}
	}
}

// P201
func TestCompareOfEachPair(t *testing.T) {
	all := lists(labels("a", "x", "a", "xy", "ax", "y", "", ""), 3)
	for _, a := range all {
		for _, b := range all {
			want := compareByWords(a, b)
			if got := label.Compare(a, b); got != want {
				t.Fatalf("Compare(%q, %q): %d, not %d", a, b, got, want)
			}
			if got := label.Same(a, b); got != (want == 0) {
				t.Fatalf("Same(%q, %q): %v", a, b, got)
			}
		}
	}
}

// P201
func TestGet(t *testing.T) {
	l := labels("b", "1", "a", "2", "b", "3", "", "4", "c", "")
	for _, c := range []struct{ name, want string }{
		{"b", "1"}, {"a", "2"}, {"", "4"}, {"c", ""}, {"d", ""}, {"B", ""}, {"bb", ""}, {"\xff", ""},
	} {
		if got := label.Get(l, c.name); got != c.want {
			t.Errorf("Get(%q): %q, not %q", c.name, got, c.want)
		}
	}
	if got := label.Get(nil, "a"); got != "" {
		t.Errorf("Get of none: %q", got)
	}
	if got := label.Get(labels("a", "1"), ""); got != "" {
		t.Errorf("Get of no name: %q", got)
	}
}

// P202
func TestOnlyAndWithout(t *testing.T) {
	l := labels("a", "1", "b", "2", "c", "3", "d", "4")
	untidy := labels("d", "1", "b", "2", "d", "3", "", "4")
	for _, c := range []struct {
		l             []api.Label
		names         []string
		only, without []api.Label
	}{
		{l, nil, nil, l},
		{l, []string{"b"}, labels("b", "2"), labels("a", "1", "c", "3", "d", "4")},
		{l, []string{"d", "a"}, labels("a", "1", "d", "4"), labels("b", "2", "c", "3")}, // in the order of l
		{l, []string{"c", "c"}, labels("c", "3"), labels("a", "1", "b", "2", "d", "4")},
		{l, []string{"a", "b", "c", "d", "e"}, l, nil},
		{l, []string{"e", "", "A", "ab", "\xff"}, nil, l},
		{untidy, []string{"d"}, labels("d", "1", "d", "3"), labels("b", "2", "", "4")},
		{untidy, []string{"", "b"}, labels("b", "2", "", "4"), labels("d", "1", "d", "3")},
		{nil, []string{"a"}, nil, nil},
		{nil, nil, nil, nil},
	} {
		if got := label.Only(c.l, c.names...); !slices.Equal(got, c.only) {
			t.Errorf("Only(%q, %q): %q, not %q", c.l, c.names, got, c.only)
		}
		if got := label.Without(c.l, c.names...); !slices.Equal(got, c.without) {
			t.Errorf("Without(%q, %q): %q, not %q", c.l, c.names, got, c.without)
		}
	}
}

// P202
func TestText(t *testing.T) {
	tidy, _ := label.Tidy(labels("b", "x", "a", "y")...)
	for _, c := range []struct {
		l    []api.Label
		want string
	}{
		{tidy, `{a="y",b="x"}`}, // the chapter's example
		{nil, "{}"},
		{[]api.Label{}, "{}"},
		{labels("a", "x"), `{a="x"}`},
		{labels("b", "x", "a", "y", "b", "z"), `{b="x",a="y",b="z"}`}, // as they stand
		{labels("a", "\"\\\n\xff,}="), `{a="\"\\\n\xff,}="}`},
		{labels("été", "é\t"), "{été=\"é\t\"}"},
		{labels("", ""), `{=""}`},
		{labels("a\"\xff", "x"), "{a\"\xff=\"x\"}"}, // a name is never quoted
	} {
		if got := label.Text(c.l); got != c.want {
			t.Errorf("Text(%q): %s, not %s", c.l, got, c.want)
		}
	}
}

// Rule 2: nothing writes into what was handed in.
func TestNothingIsWrittenInto(t *testing.T) {
	l := labels("c", "1", "b", "2", "a", "3")
	names := []string{"c", "a"}
	label.Tidy(l...)
	label.Right(l)
	label.Only(l, names...)
	label.Without(l, names...)
	label.Text(l)
	if !slices.Equal(l, labels("c", "1", "b", "2", "a", "3")) || !slices.Equal(names, []string{"c", "a"}) {
		t.Errorf("handed in, and now %q, %q", l, names)
	}
}

// Rule 2: an answer shares no memory with what was handed in.
func TestAnswersAreNewMemory(t *testing.T) {
	l := labels(strings.Clone("ab"), strings.Clone("xy"))
	tidy, _ := label.Tidy(l...)
	for what, got := range map[string][]api.Label{"Tidy": tidy, "Only": label.Only(l, "ab"), "Without": label.Without(l, "c")} {
		if len(got) != 1 || &got[0] == &l[0] || unsafe.StringData(got[0].Name) == unsafe.StringData(l[0].Name) || unsafe.StringData(got[0].Value) == unsafe.StringData(l[0].Value) {
			t.Errorf("%s shares memory with what was handed in", what)
		}
	}
	if got := label.Get(l, "ab"); unsafe.StringData(got) == unsafe.StringData(l[0].Value) {
		t.Error("Get shares memory with what was handed in")
	}
}
