package answer_test

import (
	"math"
	"slices"
	"strconv"
	"strings"
	"testing"

	"leporello/answer"
	"leporello/api"
	"leporello/label"
	"leporello/parse"
	"leporello/store"
	"leporello/vector"
)

const (
	most = api.MaxV
	late = api.MaxT
)

// number reads a number of a table; M stands for the greatest one.
func number(text string) int {
	v, err := strconv.Atoi(strings.ReplaceAll(strings.TrimSpace(text), "M", strconv.Itoa(most)))
	if err != nil {
		panic(err)
	}
	return v
}

// labels tells labels of a text as a=x b=y, in the order of the text.
func labels(text string) []api.Label {
	var l []api.Label
	for _, pair := range strings.Fields(text) {
		name, value, _ := strings.Cut(pair, "=")
		l = append(l, api.Label{Name: name, Value: value})
	}
	return l
}

// rows tells rows of a text as "a=x b=y: 5, a=z: 7", in the order of the text.
func rows(text string) []api.Row {
	var l []api.Row
	for _, one := range strings.Split(text, ",") {
		if before, v, ok := strings.Cut(one, ":"); ok {
			l = append(l, api.Row{Labels: labels(before), V: number(v)})
		}
	}
	return l
}

// measured tells a store of a text as "a=x metric=y: 5@10 6@20, ..": numbers at
// times; the labels in any order.
func measured(t *testing.T, text string) *store.Store {
	t.Helper()
	s := new(store.Store)
	for _, one := range strings.Split(text, ",") {
		before, points, _ := strings.Cut(one, ":")
		l, e := label.Tidy(labels(before)...)
		if e != api.OK {
			t.Fatalf("%s: %d", one, e)
		}
		for _, p := range strings.Fields(points) {
			v, at, _ := strings.Cut(p, "@")
			if e := s.Put(l, number(at), number(v)); e != api.OK {
				t.Fatalf("%s of %s: %d", p, one, e)
			}
		}
	}
	return s
}

// tell tells rows as a text.
func tell(l []api.Row) string {
	var b strings.Builder
	for _, x := range l {
		b.WriteString(label.Text(x.Labels) + ": " + strconv.Itoa(x.V) + ", ")
	}
	return b.String()
}

// copied tells rows that share nothing with these but their texts.
func copied(l []api.Row) []api.Row {
	var all []api.Row
	for _, x := range l {
		all = append(all, api.Row{Labels: slices.Clone(x.Labels), V: x.V})
	}
	return all
}

// same tells whether two lists of rows say the same.
func same(a, b []api.Row) bool {
	return slices.EqualFunc(a, b, func(x, y api.Row) bool { return x.V == y.V && slices.Equal(x.Labels, y.Labels) })
}

// is holds an answer against rows, or an error.
func is(t *testing.T, what string, got []api.Row, e api.Errno, want []api.Row, wantE api.Errno) {
	t.Helper()
	if e != wantE || !same(got, want) || e != api.OK && got != nil {
		t.Errorf("%s: %.600s %d, not %.600s %d", what, tell(got), e, tell(want), wantE)
	}
}

// read tells the root of a text that must be a query.
func read(t *testing.T, text string) api.Node {
	t.Helper()
	q, e := parse.Read(text)
	if e != api.OK {
		t.Fatalf("Read(%q): %d", text, e)
	}
	return q.Root
}

// asks holds what is answered to a part's text, by each of the three calls.
func asks(t *testing.T, s *store.Store, text string, at int, want []api.Row, wantE api.Errno) {
	t.Helper()
	n, what := read(t, text), text+" at "+strconv.Itoa(at)
	got, e := answer.Eval(s, n, at)
	is(t, "Eval "+what, got, e, want, wantE)
	if e == api.OK && !vector.Right(got) {
		t.Errorf("%s: no vector: %s", what, tell(got))
	}
	got, e = answer.Query(s, api.Query{Root: n, Limit: -1, Offset: -1}, at)
	is(t, "Query "+what, got, e, want, wantE)
	got, e = answer.Ask(s, text, at)
	is(t, "Ask "+what, got, e, want, wantE)
}

// answers holds that rows are answered; refuses, that an error is.
func answers(t *testing.T, s *store.Store, text string, at int, want string) {
	t.Helper()
	asks(t, s, text, at, rows(want), api.OK)
}

func refuses(t *testing.T, s *store.Store, text string, at int, want api.Errno) {
	t.Helper()
	asks(t, s, text, at, nil, want)
}

// fleet is a store of three hosts, of which c tells of its memory alone.
func fleet(t *testing.T) *store.Store {
	return measured(t, "host=a metric=cpu: 5@100 7@400 4@1000, host=b metric=cpu: 8@1000, host=a metric=mem: 30@990, host=b metric=mem: 20@990, host=c metric=mem: 10@990")
}

// P1201: numbers, whatever was measured.
func TestNumbers(t *testing.T) {
	for _, s := range []*store.Store{nil, {}, fleet(t)} {
		for text, want := range map[string]string{
			"0": ": 0", "7": ": 7", "007": ": 7", "1000000000000": ": M", "((3))": ": 3",
			"-5": ": -5", "--5": ": 5", "---5": ": -5", "-0": ": 0", "-1000000000000": ": -M", "-(2-5)": ": 3",
			"1+2*3": ": 7", "(1+2)*3": ": 9", "7-2-1": ": 4", "7/2": ": 3", "-7/2": ": -3", "7%4": ": 3", "-7%4": ": -3", "7%-4": ": 3", "2-1000000000000": ": -999999999998", "1000000000000*-1": ": -M",
			"1<2": ": 1", "2<1": ": 0", "2<2": ": 0", "2<=2": ": 1", "2>=3": ": 0", "3>2": ": 1", "1==1": ": 1", "1!=1": ": 0", "1<2<3": ": 1", "3>2>1": ": 0", "-(1==1)": ": -1", "1-(1<2)": ": 0",
		} {
			for _, at := range []int{0, 1000, late} {
				answers(t, s, text, at, want)
			}
		}
		for text, want := range map[string]api.Errno{"1/0": api.ErrDiv, "1%0": api.ErrDiv, "0/(1-1)": api.ErrDiv, "1000000000000+1": api.ErrOver, "-1000000000000-1": api.ErrOver, "1000000*1000001": api.ErrOver, "-(1000000000000+1)": api.ErrOver} {
			refuses(t, s, text, 5, want)
		}
	}
}

// P1201: how long a point is the last one.
func TestStale(t *testing.T) {
	s := measured(t, "metric=zero: 1@0, host=a metric=one: -1@1000, host=a metric=some: 1@10 2@200 3@310 M@311, metric=end: 9@1000000000")
	for _, c := range []struct {
		text, want string
		at         []int
	}{
		{"zero", "metric=zero: 1", []int{0, 1, 299}}, {"zero", "", []int{300, 301, late}},
		{"one", "", []int{0, 700, 999, 1300, 1301, late}}, {"one", "host=a metric=one: -1", []int{1000, 1001, 1299}},
		{"some", "", []int{0, 9, 611, 612}}, {"some", "host=a metric=some: 1", []int{10, 199}}, {"some", "host=a metric=some: 2", []int{200, 309}}, {"some", "host=a metric=some: 3", []int{310}}, {"some", "host=a metric=some: M", []int{311, 610}},
		{"end", "", []int{0, late - 1}}, {"end", "metric=end: 9", []int{late}},
		{"end[0s]", "metric=end: 9", []int{late}}, {"zero{}[0h]", "metric=zero: 1", []int{299}}, {"zero[0m]", "", []int{300}}, // of no seconds: no window
		{"{}", "metric=zero: 1", []int{0, 9}}, {"{}", "host=a metric=some: 1, metric=zero: 1", []int{10}}, {"{}", "host=a metric=some: 2", []int{300}}, {"{}", "", []int{611, 999, 1300}},
	} {
		for _, at := range c.at {
			answers(t, s, c.text, at, c.want)
		}
	}
}

// P1201: which series a selector means.
func TestSelectors(t *testing.T) {
	s := fleet(t)
	cpu, mem := "host=a metric=cpu: 4, host=b metric=cpu: 8", "host=a metric=mem: 30, host=b metric=mem: 20, host=c metric=mem: 10"
	for text, want := range map[string]string{
		"cpu": cpu, "mem": mem, "cp": "", "cpus": "", "CPU": "", "metric": "", "host": "", "a": "",
		"{}": "host=a metric=cpu: 4, host=a metric=mem: 30, host=b metric=cpu: 8, host=b metric=mem: 20, host=c metric=mem: 10", "cpu{}": cpu,
		`{metric="cpu"}`: cpu, `{metric=~"c.*"}`: cpu, `{metric!="cpu"}`: mem, `cpu{metric="cpu"}`: cpu, `cpu{metric="mem"}`: "", `cpu{metric!="mem"}`: cpu, `cpu{metric!="cpu"}`: "",
		`{host="a"}`: "host=a metric=cpu: 4, host=a metric=mem: 30", `cpu{host="a"}`: "host=a metric=cpu: 4", `cpu{host="c"}`: "", `cpu{host=""}`: "", `mem{host!="b"}`: "host=a metric=mem: 30, host=c metric=mem: 10", `mem{host=~"b|c"}`: "host=b metric=mem: 20, host=c metric=mem: 10", `mem{host!~"[bc]"}`: "host=a metric=mem: 30", `mem{host=~"a|b",host!="a"}`: "host=b metric=mem: 20", `cpu{none=""}`: cpu, `cpu{none!=""}`: "", `cpu{none="a"}`: "",
	} {
		answers(t, s, text, 1000, want)
		answers(t, &store.Store{}, text, 1000, "")
		answers(t, nil, text, 1000, "")
	}
	// As many matchers as may be, and a metric.
	ten := strings.Repeat(`,host="a"`, 10)[1:]
	answers(t, s, "cpu{"+ten+"}", 1000, "host=a metric=cpu: 4")
	answers(t, s, "{"+ten+"}", 1000, "host=a metric=cpu: 4, host=a metric=mem: 30")
	answers(t, s, "mem{"+ten+"}-1", 1000, "host=a: 29")
	answers(t, s, "max_over(cpu{"+ten+"}[900s])", 1000, "host=a: 7")
}

// P1201: the points of which a function tells.
func TestWindows(t *testing.T) {
	s := measured(t, "host=a metric=m: 1@0 2@10 4@20 8@30, host=b metric=m: 16@20")
	for _, c := range []struct {
		text, want string
		at         int
	}{
		{"sum_over(m[5s])", "host=a: 1", 0}, {"sum_over(m[5s])", "host=a: 1", 4}, {"sum_over(m[5s])", "", 5}, {"sum_over(m[5s])", "", 9}, {"sum_over(m[5s])", "host=a: 2", 10}, {"sum_over(m[1s])", "host=a: 2", 10}, {"sum_over(m[1s])", "", 11},
		{"sum_over(m[10s])", "host=a: 4, host=b: 16", 20}, {"sum_over(m[11s])", "host=a: 6, host=b: 16", 20}, {"sum_over(m[20s])", "host=a: 6, host=b: 16", 20}, {"sum_over(m[21s])", "host=a: 7, host=b: 16", 20}, {"sum_over(m[1h])", "host=a: 15, host=b: 16", 30}, {"sum_over(m[1000000000s])", "host=a: 15, host=b: 16", late - 1}, {"sum_over(m[1000000000s])", "host=a: 14, host=b: 16", late}, {"sum_over(m[277777h])", "", late},
		{"last_over(m[15s])", "host=a: 8, host=b: 16", 34}, {"last_over(m[15s])", "host=a: 8", 35}, {"count_over(m[10m])", "host=a: 4, host=b: 1", 599}, {"count_over(m[10m])", "host=a: 3, host=b: 1", 600}, {"count_over(m[10m])", "host=a: 1", 620}, {"count_over(m[10m])", "", 630},
	} {
		answers(t, s, c.text, c.at, c.want)
		answers(t, nil, c.text, c.at, "")
	}
}

// P1201: each function.
func TestFunctions(t *testing.T) {
	s := measured(t, "host=a metric=m: 5@10 9@20 2@40 2@60, host=b metric=m: -7@60, host=c metric=m: 1@500, host=b metric=n: 1@10 4@20, metric=n zone=x: 3@20")
	for text, want := range map[string]string{
		"sum_over(m[60s])": "host=a: 18, host=b: -7", "min_over(m[60s])": "host=a: 2, host=b: -7", "max_over(m[60s])": "host=a: 9, host=b: -7", "count_over(m[60s])": "host=a: 4, host=b: 1", "avg_over(m[60s])": "host=a: 4, host=b: -7", "last_over(m[60s])": "host=a: 2, host=b: -7",
		"increase(m[60s])": "host=a: 6", "rate(m[60s])": "host=a: 120", "increase(m[40s])": "host=a: 0", "increase(m[41s])": "host=a: 2", "increase(m[5s])": "", "rate(m[5s])": "",
		"increase(n[60s])": "host=b: 3", "last_over(n[60s])": "host=b: 4, zone=x: 3", `last_over(n{zone=""}[60s])`: "host=b: 4", `sum_over({host="a"}[60s])`: "host=a: 18", `sum_over({metric=~"m|n",zone!=""}[60s])`: "zone=x: 3",
		"sum_over(none[60s])": "", `rate(m{host="z"}[60s])`: "", "sum_over(m[60s])+1": "host=a: 19, host=b: -6", "sum(max_over(m[60s]))": ": 2",
	} {
		answers(t, s, text, 60, want)
	}
	// By labels, also where the metric stood between.
	s = measured(t, "a=1 metric=m: 1@1, metric=m: 2@1, metric=m z=1: 3@1, metric=a z=2: 4@1")
	answers(t, s, "sum_over({}[5s])", 1, ": 2, a=1: 1, z=1: 3, z=2: 4")
}

// P1201: two alike behind a function, and its errors ahead of that.
func TestErrorsOfFunctions(t *testing.T) {
	s := measured(t, "host=a metric=m: 5@10 6@20, host=a metric=n: 7@20, host=b metric=n: 8@20")
	for _, c := range []struct {
		text string
		at   int
		want api.Errno
	}{
		{"sum_over({}[10s])", 20, api.ErrTwice}, {"last_over({}[10s])", 25, api.ErrTwice}, {`max_over({host="a"}[10s])`, 20, api.ErrTwice}, {"-sum_over({}[10s])", 20, api.ErrTwice}, {"count(count_over({}[10s]))", 20, api.ErrTwice},
		{"sum_over({}[10s])", 10, api.OK}, {"sum_over({}[10s])", 30, api.OK}, {"increase({}[20s])", 20, api.OK}, {`max_over({host="b"}[10s])`, 20, api.OK}, {"max_over(n[10s])", 20, api.OK},
	} {
		got, e := answer.Ask(s, c.text, c.at)
		if e != c.want || e != api.OK && got != nil {
			t.Errorf("%s at %d: %s %d, not %d", c.text, c.at, tell(got), e, c.want)
		}
	}
	over := measured(t, "host=a metric=m: 1@10 2@20, host=a metric=n: 1@10 2@20, host=z metric=m: M@10 M@20, host=y metric=k: -M@10 M@20")
	for text, want := range map[string]api.Errno{
		"sum_over(m[20s])": api.ErrOver, "sum_over({}[20s])": api.ErrOver, "increase(k[20s])": api.ErrOver, "rate(k[20s])": api.ErrOver, "increase({}[20s])": api.ErrOver,
		"avg_over({}[20s])": api.ErrTwice, "max_over({}[20s])": api.ErrTwice, `sum_over({host!="z"}[20s])`: api.ErrTwice,
	} {
		refuses(t, over, text, 20, want)
	}
	answers(t, over, "avg_over(m[20s])", 20, "host=a: 1, host=z: M")
	answers(t, over, "sum_over(k[20s])", 20, "host=y: 0")
	answers(t, over, "sum_over(m[20s])", 30, "host=a: 2, host=z: M") // of one point each
}

// P1201: neg of vectors.
func TestNeg(t *testing.T) {
	s := fleet(t)
	for text, want := range map[string]string{
		"-cpu": "host=a: -4, host=b: -8", "--cpu": "host=a: 4, host=b: 8", "---mem": "host=a: -30, host=b: -20, host=c: -10", "-none": "", "-sum(cpu)": ": -12", "-(cpu*0)": "host=a: 0, host=b: 0", "-max_over(cpu[1h])": "host=a: -7, host=b: -8", "-(cpu>4)": "host=b: -8", "-topk(1,cpu)": "host=b: -8",
	} {
		answers(t, s, text, 1000, want)
	}
	refuses(t, s, "-{}", 1000, api.ErrTwice)
	answers(t, s, `-{host="c"}`, 1000, "host=c: -10")
	answers(t, s, "-{}", 400, "host=a: -7")
}

// P1201: a vector and a number, from either side.
func TestScale(t *testing.T) {
	s := fleet(t)
	for text, want := range map[string]string{
		"cpu+1": "host=a: 5, host=b: 9", "1+cpu": "host=a: 5, host=b: 9", "cpu-1": "host=a: 3, host=b: 7", "10-cpu": "host=a: 6, host=b: 2", "cpu*3": "host=a: 12, host=b: 24", "cpu/3": "host=a: 1, host=b: 2", "9/cpu": "host=a: 2, host=b: 1", "cpu%3": "host=a: 1, host=b: 2", "9%cpu": "host=a: 1, host=b: 1",
		"cpu>4": "host=b metric=cpu: 8", "4>cpu": "", "4<cpu": "host=b metric=cpu: 8", "cpu<8": "host=a metric=cpu: 4", "8>=cpu": "host=a metric=cpu: 4, host=b metric=cpu: 8", "cpu==4": "host=a metric=cpu: 4", "4==cpu": "host=a metric=cpu: 4", "cpu!=4": "host=b metric=cpu: 8", "4!=cpu": "host=b metric=cpu: 8", "cpu<=3": "",
		"{}>9": "host=a metric=mem: 30, host=b metric=mem: 20, host=c metric=mem: 10", "(cpu>4)+1": "host=b: 9", "(cpu+1)>5": "host=b: 9", "cpu*(1+1)": "host=a: 8, host=b: 16", "(1<2)+cpu": "host=a: 5, host=b: 9",
		"sum(cpu)+1": ": 13", "1+sum(cpu)": ": 13", "sum(cpu)>12": "", "sum(cpu)>=12": ": 12", "none+1": "", "none/0": "",
	} {
		answers(t, s, text, 1000, want)
	}
	for text, want := range map[string]api.Errno{"cpu/0": api.ErrDiv, "cpu%0": api.ErrDiv, "1/(cpu-4)": api.ErrDiv, "cpu*1000000000000": api.ErrOver, "1000000000000+cpu": api.ErrOver, "-1000000000000-cpu": api.ErrOver, "{}+1": api.ErrTwice, "1+{}": api.ErrTwice, "{}/0": api.ErrDiv, "{}*1000000000000": api.ErrOver} {
		refuses(t, s, text, 1000, want)
	}
}

// P1201: two vectors.
func TestMatch(t *testing.T) {
	s := measured(t, "host=a metric=cpu: 4@1000, host=b metric=cpu: 8@1000, host=a metric=mem: 30@1000, host=b metric=mem: 20@1000, host=c metric=mem: 10@1000, host=a metric=disk zone=x: 3@1000, host=b metric=disk zone=y: 5@1000")
	for text, want := range map[string]string{
		"cpu+mem": "host=a: 34, host=b: 28", "mem-cpu": "host=a: 26, host=b: 12", "cpu-mem": "host=a: -26, host=b: -12", "mem/cpu": "host=a: 7, host=b: 2", "mem%cpu": "host=a: 2, host=b: 4", "cpu*cpu": "host=a: 16, host=b: 64",
		"cpu<mem": "host=a metric=cpu: 4, host=b metric=cpu: 8", "mem>cpu": "host=a metric=mem: 30, host=b metric=mem: 20", "mem<cpu": "", "mem==mem": "host=a metric=mem: 30, host=b metric=mem: 20, host=c metric=mem: 10", "mem!=mem": "",
		"cpu+disk": "", "cpu+on(host)disk": "host=a: 7, host=b: 13", "disk-on(host)cpu": "host=a: -1, host=b: -3", "cpu+ignoring(zone)disk": "host=a: 7, host=b: 13", "disk>on(host)cpu": "", "cpu>ignoring(zone)disk": "host=a metric=cpu: 4, host=b metric=cpu: 8",
		"sum(cpu)/sum(mem)": ": 0", "sum(mem)/sum(cpu)": ": 5", `cpu{host="a"}+on(metric)cpu{host="a"}`: "metric=cpu: 8", `cpu{host="a"}+on()mem{host="b"}`: ": 24", "cpu+none": "", "none+cpu": "", "none*none": "", "cpu+ignoring()mem": "host=a: 34, host=b: 28", "sum(cpu)==on()sum(cpu)": ": 12",
	} {
		answers(t, s, text, 1000, want)
	}
	for text, want := range map[string]api.Errno{"cpu+on()mem": api.ErrTwice, "sum(cpu)+on()mem": api.ErrTwice, "mem+on()sum(cpu)": api.ErrTwice, "cpu+ignoring(host)mem": api.ErrTwice, "cpu+on(zone)disk": api.ErrTwice, "{}+cpu": api.ErrTwice, "cpu+{}": api.ErrTwice, "cpu+on(metric)mem": api.ErrTwice, "cpu/on(host)(disk-disk)": api.ErrDiv, "cpu/(cpu-4)": api.ErrDiv, "cpu/(mem-mem)": api.ErrDiv, "cpu*(mem*100000000000)": api.ErrOver, "(mem*10000000000)*mem": api.ErrOver} {
		refuses(t, s, text, 1000, want)
	}
}

// P1201: aggregations; the chapter's example, too.
func TestAggregations(t *testing.T) {
	s := measured(t, "host=a metric=cpu zone=x: 4@1000, host=a metric=cpu zone=y: 5@1000, host=b metric=cpu zone=x: 8@1000, host=a metric=mem: 30@1000")
	for text, want := range map[string]string{
		"sum(cpu)": ": 17", "sum by(host)(cpu)": "host=a: 9, host=b: 8", "sum without(zone)(cpu)": "host=a: 9, host=b: 8", "sum by(metric)({})": "metric=cpu: 17, metric=mem: 30", "sum without()({})": "host=a: 30, host=a zone=x: 4, host=a zone=y: 5, host=b zone=x: 8", "sum by()(cpu)": ": 17",
		"min by(zone)(cpu)": "zone=x: 4, zone=y: 5", "max by(zone)(cpu)": "zone=x: 8, zone=y: 5", "count(cpu)": ": 3", "count by(host)({})": "host=a: 3, host=b: 1", "avg(cpu)": ": 5", "avg(-cpu)": ": -5", "quantile(0,cpu)": ": 4", "quantile(50,cpu)": ": 5", "quantile by(host)(100,cpu)": "host=a: 5, host=b: 8",
		"topk(1,cpu)": "host=b metric=cpu zone=x: 8", "topk(2,cpu)": "host=a metric=cpu zone=y: 5, host=b metric=cpu zone=x: 8", "topk by(host)(1,cpu)": "host=a metric=cpu zone=y: 5, host=b metric=cpu zone=x: 8", "topk(2000,cpu)": "host=a metric=cpu zone=x: 4, host=a metric=cpu zone=y: 5, host=b metric=cpu zone=x: 8", "topk without(zone)(1,cpu*0)": "host=a zone=x: 0, host=b zone=x: 0",
		"sum(none)": "", "topk(1,none)": "", "sum(sum by(host)(cpu))": ": 17", "max(sum by(host)(cpu))": ": 9", "sum by(zone)(max_over(cpu[5s]))": "zone=x: 12, zone=y: 5", "sum(cpu>4)": ": 13", "count(cpu)+count(mem)": ": 4", "sum by(host)(cpu)*2": "host=a: 18, host=b: 16",
	} {
		answers(t, s, text, 1000, want)
	}
	refuses(t, s, "sum(cpu*100000000000)", 1000, api.ErrOver)
	refuses(t, s, "sum by(host)(cpu*124000000000)", 1000, api.ErrOver)
	answers(t, s, "avg(cpu*100000000000)", 1000, ": 566666666666")
	got, e := answer.Ask(s, "sum by (host) (cpu) order desc limit 1", 1000)
	is(t, "the chapter's example", got, e, rows("host=a: 9"), api.OK)
}

// P1201: the kinds are asked ahead of all that is reckoned, wherever they are
// wrong.
func TestKinds(t *testing.T) {
	for _, s := range []*store.Store{nil, {}, fleet(t)} {
		for _, text := range []string{"cpu[5m]", "{}[1s]", "(cpu[5m])", "rate(cpu)", "rate(1)", "rate(rate(cpu[5m]))", "sum(1)", "sum(cpu[5m])", "-cpu[5m]", "cpu[5m]+1", "1+cpu[5m]", "1+on()1", "1+on(host)cpu", "cpu+ignoring()1", "quantile(101,cpu)", "topk(0,cpu)", "topk(2001,cpu)", "1/0+rate(cpu)", "rate(cpu)+1/0", "{}+1+sum(1)", "-(1/0)+-cpu[5m]", "sum(-(cpu+on()mem))*sum(topk(0,cpu))"} {
			refuses(t, s, text, 1000, api.ErrKind)
		}
	}
}

// P1201: of the errors of two kids that of the left one counts, and those of
// kids ahead of what they come to.
func TestOrderOfErrors(t *testing.T) {
	s := fleet(t)
	wrong := map[string]api.Errno{"(1/0)": api.ErrDiv, "(1000000000000*2)": api.ErrOver, "(-{})": api.ErrTwice, "(cpu/0)": api.ErrDiv, "sum(cpu*200000000000)": api.ErrOver, "last_over({}[1h])": api.ErrTwice}
	for a, left := range wrong {
		for b := range wrong {
			refuses(t, s, a+"+"+b, 1000, left)
			refuses(t, s, a+"<"+b, 1000, left)
			refuses(t, s, "-("+a+"*"+b+")", 1000, left)
		}
		for _, right := range []string{"0", "{}", "none", "1000000000000", "cpu"} {
			refuses(t, s, a+"/"+right, 1000, left)
			refuses(t, s, right+"/"+a, 1000, left)
		}
	}
	refuses(t, s, "sum(-{})", 1000, api.ErrTwice)
	refuses(t, s, "sum((1000000000000-cpu)/0)", 1000, api.ErrDiv)
	refuses(t, s, "-(cpu/0)", 1000, api.ErrDiv)
	refuses(t, s, "(cpu+on()mem)/0", 1000, api.ErrTwice)
}

// P1201, P1202: a time that may not be; Eval looks at it first, Query and Ask
// behind what the query is.
func TestTimes(t *testing.T) {
	for _, s := range []*store.Store{nil, {}, fleet(t)} {
		for _, at := range []int{-1, -300, late + 1, math.MinInt, math.MaxInt, 1 << 32} {
			for _, text := range []string{"1", "-1", "1/0", "cpu", "{}", "cpu/0", "rate(cpu[5m])", "sum(cpu)", "none"} {
				refuses(t, s, text, at, api.ErrArg)
			}
			for _, text := range []string{"cpu[5m]", "rate(cpu)", "sum(1)", "topk(0,cpu)"} {
				got, e := answer.Eval(s, read(t, text), at)
				is(t, "Eval "+text, got, e, nil, api.ErrArg)
				got, e = answer.Query(s, api.Query{Root: read(t, text), Limit: -1, Offset: -1}, at)
				is(t, "Query "+text, got, e, nil, api.ErrKind)
				got, e = answer.Ask(s, text, at)
				is(t, "Ask "+text, got, e, nil, api.ErrKind)
			}
			got, e := answer.Ask(s, "cpu order", at)
			is(t, "Ask of no query", got, e, nil, api.ErrForm)
		}
		for _, at := range []int{0, 1, late - 1, late} {
			answers(t, s, "1", at, ": 1")
			answers(t, s, "none", at, "")
		}
	}
}

// P1202: parse's errors.
func TestAskOfNoQuery(t *testing.T) {
	for _, s := range []*store.Store{nil, {}, fleet(t)} {
		for _, at := range []int{0, 1000, -1, late + 1} {
			for text, want := range map[string]api.Errno{
				"": api.ErrForm, " ": api.ErrForm, "1+": api.ErrForm, "cpu cpu": api.ErrForm, "cpu{": api.ErrForm, "sum(1,cpu)": api.ErrForm, "topk(cpu)": api.ErrForm, "\xff": api.ErrForm, "cpu limit 2001": api.ErrForm, `cpu{host=~"("}`: api.ErrForm, "rate(cpu) order": api.ErrForm, "1/0)": api.ErrForm,
				strings.Repeat(" ", api.MaxText) + "1": api.ErrArg, strings.Repeat("1+", api.MaxText) + "1": api.ErrArg, strings.Repeat("-", 200) + "1": api.ErrForm,
			} {
				got, e := answer.Ask(s, text, at)
				is(t, "Ask "+text, got, e, nil, want)
			}
		}
		got, e := answer.Ask(s, strings.Repeat("-", 199)+"1", 5)
		is(t, "as many nodes as may be", got, e, rows(": -1"), api.OK)
	}
}
