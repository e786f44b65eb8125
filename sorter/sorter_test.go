package sorter_test

import (
	"math"
	"math/rand"
	"slices"
	"strconv"
	"strings"
	"testing"
	"unsafe"

	"leporello/answer"
	"leporello/api"
	"leporello/merge"
	"leporello/row"
	"leporello/sorter"
)

const (
	mostRoom = 1_000_000
	mostFan  = 20
)

// orders are those of the document, and others, which are as ByLabels.
var orders = []int{api.ByLabels, api.Rising, api.Falling, 3, -1, 1 << 32, math.MaxInt, math.MinInt}

// costing tells a row of a number that costs so much: 16, or from 26 on.
func costing(cost, v int) api.Row {
	if cost == 16 {
		return api.Row{V: v}
	}
	return api.Row{Labels: []api.Label{{Name: "a", Value: strings.Repeat("x", cost-25)}}, V: v}
}

// list reads rows, each COST:NUMBER, or VALUE=NUMBER of a row a=VALUE.
func list(text string) []api.Row {
	var l []api.Row
	for _, word := range strings.Fields(text) {
		value, number, named := strings.Cut(word, "=")
		if named {
			v, _ := strconv.Atoi(number)
			l = append(l, api.Row{Labels: []api.Label{{Name: "a", Value: value}}, V: v})
			continue
		}
		cost, number, _ := strings.Cut(word, ":")
		c, _ := strconv.Atoi(cost)
		v, _ := strconv.Atoi(number)
		l = append(l, costing(c, v))
	}
	return l
}

// some tells n rows of a number each, that cost 16.
func some(n int) []api.Row {
	var l []api.Row
	for i := range n {
		l = append(l, api.Row{V: i * 7919 % 2003})
	}
	return l
}

// deep copies rows.
func deep(l []api.Row) []api.Row {
	var all []api.Row
	for _, r := range l {
		all = append(all, api.Row{Labels: slices.Clone(r.Labels), V: r.V})
	}
	return all
}

// pile is memory by the chapter's words: what each row that is in use costs.
type pile struct {
	inUse []int
	high  int
}

func (p *pile) sum() int {
	all := 0
	for _, n := range p.inUse {
		all += n
	}
	return all
}

func (p *pile) take(r api.Row) {
	p.inUse = append(p.inUse, row.Cost(r))
	p.high = max(p.high, p.sum())
}

func (p *pile) give(r api.Row) {
	at := slices.Index(p.inUse, row.Cost(r))
	p.inUse = slices.Delete(p.inUse, at, at+1)
}

// bestHead tells the place of the list whose head goes out next.
func bestHead(order int, left [][]api.Row) int {
	best := -1
	for i, x := range left {
		if len(x) > 0 && (best < 0 || answer.Less(order, x[0], left[best][0])) {
			best = i
		}
	}
	return best
}

// merged merges runs by the chapter's words, row by row.
func (p *pile) merged(order int, runs [][]api.Row) []api.Row {
	left := slices.Clone(runs)
	for _, x := range left {
		p.take(x[0])
	}
	var all []api.Row
	for i := bestHead(order, left); i >= 0; i = bestHead(order, left) {
		p.give(left[i][0])
		all = append(all, left[i][0])
		left[i] = left[i][1:]
		if len(left[i]) > 0 {
			p.take(left[i][0])
		}
	}
	return all
}

// plain sorts by the chapter's words.
func plain(order, room, fan int, l []api.Row) ([]api.Row, sorter.Report) {
	var p pile
	var runs [][]api.Row
	var there []api.Row
	for _, r := range l {
		if p.sum()+row.Cost(r) > room {
			runs, there, p.inUse = append(runs, answer.Sort(order, there...)), nil, nil
		}
		p.take(r)
		there = append(there, r)
	}
	if len(there) > 0 {
		runs, p.inUse = append(runs, answer.Sort(order, there...)), nil
	}
	told := sorter.Report{Runs: len(runs)}
	for ; len(runs) > 1; told.Merges++ {
		n := min(fan, len(runs))
		one := p.merged(order, runs[:n])
		runs = append(slices.Clone(runs[n:]), one)
	}
	told.High = p.high
	return slices.Concat(runs...), told
}

// holds holds Sort, asked twice, against the chapter's words, and what was
// handed in against what it was.
func holds(t *testing.T, order, room, fan int, l []api.Row) {
	t.Helper()
	kept := deep(l)
	want, took := plain(order, room, fan, kept)
	for range 2 {
		got, told, e := sorter.Sort(order, room, fan, l...)
		if e != api.OK || told != took || !row.Same(got, want) {
			t.Fatalf("Sort(%d, %d, %d) of %v: %v, %+v, %d, not %v, %+v", order, room, fan, l, got, told, e, want, took)
		}
		inRoom(t, order, room, l, got, told)
	}
	if !row.Same(l, kept) {
		t.Fatalf("handed in %v, and now %v", kept, l)
	}
}

// inRoom holds what Sort answered against what follows: the rows of l, all of
// them and no other, in order, in no more than the room.
func inRoom(t *testing.T, order, room int, l, got []api.Row, told sorter.Report) {
	t.Helper()
	if told.High > room {
		t.Fatalf("Sort(%d) of %v: High %d of room %d", order, l, told.High, room)
	}
	if !merge.InOrder(order, got) {
		t.Fatalf("Sort(%d) of %v: %v", order, l, got)
	}
	// Rising tells apart all rows that are not the same.
	if !row.Same(answer.Sort(api.Rising, got...), answer.Sort(api.Rising, l...)) {
		t.Fatalf("Sort(%d) of %v: other rows: %v", order, l, got)
	}
}

// refused holds what is refused.
func refused(t *testing.T, order, room, fan int, l []api.Row, want api.Errno) {
	t.Helper()
	if got, told, e := sorter.Sort(order, room, fan, l...); e != want || got != nil || told != (sorter.Report{}) {
		t.Errorf("Sort(%d, %d, %d) of %d rows: %v, %+v, %d, not %d", order, room, fan, len(l), got, told, e, want)
	}
}

// P1801: runs, merges and the most that was in use, reckoned by hand.
func TestSortTellsWhatItTook(t *testing.T) {
	const r, f = api.Rising, api.Falling
	for _, c := range []struct {
		name             string
		order, room, fan int
		l                string
		told             sorter.Report
		want             string
	}{
		// 32 each, because no row costs 20.
		{"the chapter's", r, 64, 2, "32:3 32:1 32:2", sorter.Report{2, 1, 64}, "32:1 32:2 32:3"},
		{"no rows", r, 0, 2, "", sorter.Report{0, 0, 0}, ""},
		{"no rows, much room", f, mostRoom, 20, "", sorter.Report{0, 0, 0}, ""},
		{"one row", r, 32, 2, "16:5", sorter.Report{1, 0, 16}, "16:5"},
		{"two rows fit", r, 32, 2, "16:5 16:4", sorter.Report{1, 0, 32}, "16:4 16:5"},
		{"three do not", r, 47, 2, "16:5 16:4 16:3", sorter.Report{2, 1, 32}, "16:3 16:4 16:5"},
		{"three do", r, 48, 2, "16:5 16:4 16:3", sorter.Report{1, 0, 48}, "16:3 16:4 16:5"},
		{"falling", f, 32, 2, "16:4 16:5 16:3", sorter.Report{2, 1, 32}, "16:5 16:4 16:3"},
		// Runs {1 2}, {3 4}, {5 6}, {7}: 12, 34 and 56, 7, then all.
		{"four runs by two", r, 32, 2, "16:7 16:6 16:5 16:4 16:3 16:2 16:1", sorter.Report{4, 3, 32}, "16:1 16:2 16:3 16:4 16:5 16:6 16:7"},
		{"four runs by three", r, 48, 3, "16:10 16:9 16:8 16:7 16:6 16:5 16:4 16:3 16:2 16:1", sorter.Report{4, 2, 48}, "16:1 16:2 16:3 16:4 16:5 16:6 16:7 16:8 16:9 16:10"},
		{"three runs by three", r, 48, 3, "16:9 16:8 16:7 16:6 16:5 16:4 16:3 16:2 16:1", sorter.Report{3, 1, 48}, "16:1 16:2 16:3 16:4 16:5 16:6 16:7 16:8 16:9"},
		{"two runs by twenty", r, 320, 20, "16:21 16:20 16:19 16:18 16:17 16:16 16:15 16:14 16:13 16:12 16:11 16:10 16:9 16:8 16:7 16:6 16:5 16:4 16:3 16:2 16:1", sorter.Report{2, 1, 320}, "16:1 16:2 16:3 16:4 16:5 16:6 16:7 16:8 16:9 16:10 16:11 16:12 16:13 16:14 16:15 16:16 16:17 16:18 16:19 16:20 16:21"},
		// Runs {16 60}, of 76, and {60}: the heads come to more, 60 and 60.
		{"heads of more than any run", r, 120, 2, "16:9 60:1 60:2", sorter.Report{2, 1, 120}, "60:1 60:2 16:9"},
		// The same runs, but a 16 stands ahead of its 60 till the other 60 is out.
		{"heads of less than a run", f, 120, 2, "16:5 60:1 60:9", sorter.Report{2, 1, 76}, "60:9 16:5 60:1"},
		// Runs {16 60}, {50 26}: heads 16 and 26, then 60 and 26, then 60 and 50.
		{"heads that come later", r, 120, 2, "16:1 60:8 50:3 26:2", sorter.Report{2, 1, 110}, "16:1 26:2 50:3 60:8"},
		// Runs {60 60}, {60}: 60 goes out ahead of the next 60 being taken.
		{"given back ahead of being taken", r, 120, 2, "60:1 60:2 60:3", sorter.Report{2, 1, 120}, "60:1 60:2 60:3"},
		// Runs {50 40}, {40 60}: 60 is taken where the first one is over, and nothing of it in use.
		{"a run that is over", r, 120, 2, "50:1 40:0 40:2 60:3", sorter.Report{2, 1, 100}, "40:0 50:1 40:2 60:3"},
		// Where 100 does not fit, 16 would: it is of the next run all the same.
		{"a row that would fit later", r, 200, 2, "60:1 60:2 100:3 16:4", sorter.Report{2, 1, 160}, "60:1 60:2 100:3 16:4"},
		// Runs A, B, C, D, E of two each: AB, CD, E and AB, at last CD and ABE.
		{"put behind the others", api.ByLabels, 52, 2, "k=1 k=2 k=3 k=4 k=5 k=6 k=7 k=8 k=9 k=10", sorter.Report{5, 4, 52}, "k=5 k=6 k=7 k=8 k=9 k=10 k=1 k=2 k=3 k=4"},
		{"put behind the others, by three", api.ByLabels, 78, 3, "k=1 k=2 k=3 k=4 k=5 k=6 k=7 k=8 k=9 k=10", sorter.Report{4, 2, 78}, "k=10 k=1 k=2 k=3 k=4 k=5 k=6 k=7 k=8 k=9"},
		{"alike ones of one run", api.ByLabels, 100, 2, "k=3 k=1 k=2", sorter.Report{1, 0, 78}, "k=3 k=1 k=2"},
		{"alike ones of two runs", api.ByLabels, 52, 2, "k=3 k=1 k=2 b=9", sorter.Report{2, 1, 52}, "b=9 k=3 k=1 k=2"},
		{"by labels", api.ByLabels, 52, 2, "d=1 c=2 b=3 a=4", sorter.Report{2, 1, 52}, "a=4 b=3 c=2 d=1"},
		{"the same number, by labels", f, 52, 2, "d=1 c=1 b=1 a=2", sorter.Report{2, 1, 52}, "a=2 b=1 c=1 d=1"},
	} {
		t.Run(c.name, func(t *testing.T) {
			l := list(c.l)
			got, told, e := sorter.Sort(c.order, c.room, c.fan, l...)
			if e != api.OK || told != c.told || !row.Same(got, list(c.want)) {
				t.Errorf("%v, %+v, %d, not %+v", got, told, e, c.told)
			}
			holds(t, c.order, c.room, c.fan, l)
		})
	}
}

// P1801
func TestLeast(t *testing.T) {
	for _, c := range []struct {
		fan  int
		l    string
		want int
	}{
		{2, "", 0}, {20, "", 0}, {0, "", 0}, {2, "16:1", 32}, {3, "16:1", 48}, {20, "16:1", 320}, {2, "k=1", 52},
		{2, "16:9 26:1", 52}, {2, "26:1 16:9", 52}, {2, "16:9 85:0 26:1", 170}, {5, "40:1 40:2 39:3", 200}, {2, "16:1 16:1 16:1 16:1", 32},
		{1, "30:1", 30}, {0, "30:1", 0}, {21, "30:1", 630}, {-2, "30:1 16:1", -60},
	} {
		l := list(c.l)
		for range 2 {
			if got := sorter.Least(c.fan, l...); got != c.want {
				t.Errorf("Least(%d) of %s: %d, not %d", c.fan, c.l, got, c.want)
			}
		}
		if !row.Same(l, list(c.l)) {
			t.Errorf("Least(%d) of %s: now %v", c.fan, c.l, l)
		}
	}
	if got := sorter.Least(7, some(api.MaxRows+1)...); got != 112 {
		t.Errorf("Least of very many rows: %d", got)
	}
}

// P1801: arguments that may not be, whatever else is right or wrong.
func TestSortRefusesArguments(t *testing.T) {
	few, many := list("16:2 16:1"), some(api.MaxRows+1)
	for _, order := range orders {
		for _, fan := range []int{math.MinInt, -2, -1, 0, 1, mostFan + 1, mostFan + 2, 1<<32 + 2, math.MaxInt} {
			for _, room := range []int{-1, 0, 1, 1000, mostRoom, mostRoom + 1} {
				for _, l := range [][]api.Row{nil, few, many} {
					refused(t, order, room, fan, l, api.ErrArg)
				}
			}
		}
		for _, room := range []int{math.MinInt, -mostRoom, -1, mostRoom + 1, 2 * mostRoom, 1<<32 + 1000, math.MaxInt} {
			for _, fan := range []int{2, 3, mostFan} {
				for _, l := range [][]api.Row{nil, few, many} {
					refused(t, order, room, fan, l, api.ErrArg)
				}
			}
		}
		// Ahead of there being too little room.
		for _, room := range []int{0, 1, 31, 32, mostRoom} {
			refused(t, order, room, 2, many, api.ErrArg)
			refused(t, order, room, mostFan, some(2*api.MaxRows), api.ErrArg)
		}
	}
}

// P1801: Least is enough, and one less is not.
func TestSortAsksForLeast(t *testing.T) {
	for _, text := range []string{"16:1", "16:1 16:2", "85:1", "16:1 60:0", "60:0 16:1", "16:5 26:4 27:3 80:2 26:1 16:0", "k=1 k=1 k=1"} {
		l := list(text)
		for fan := 2; fan <= mostFan; fan++ {
			least := sorter.Least(fan, l...)
			for _, order := range orders {
				refused(t, order, least-1, fan, l, api.ErrFull)
				refused(t, order, 0, fan, l, api.ErrFull)
				holds(t, order, least, fan, l)
				holds(t, order, least+1, fan, l)
			}
		}
	}
	for fan := 2; fan <= mostFan; fan++ {
		holds(t, api.Rising, 0, fan, nil)
		holds(t, api.Rising, 0, fan, []api.Row{})
	}
}

// P1801: a row that needs all the room that may be, and one that needs more.
func TestSortOfGreatRows(t *testing.T) {
	for _, fan := range []int{2, 7, mostFan} {
		most := mostRoom / fan
		l := []api.Row{costing(most, 2), costing(16, 3), costing(most, 1), costing(most, 0)}
		holds(t, api.Rising, fan*most, fan, l)
		refused(t, api.Rising, fan*most-1, fan, l, api.ErrFull)
		refused(t, api.Rising, mostRoom, fan, append(l, costing(most+1, 0)), api.ErrFull)
	}
}

// P1801: of all short lists of small rows, in each room up to where all fit.
func TestAllShortLists(t *testing.T) {
	of := list("16:3 k=1 k=2 40:2")
	lists := [][]api.Row{nil}
	for at := 0; at < len(lists); at++ {
		if len(lists[at]) == 5 {
			continue
		}
		for _, r := range of {
			lists = append(lists, append(slices.Clone(lists[at]), r))
		}
	}
	for i, l := range lists {
		all := 0
		for _, r := range l {
			all += row.Cost(r)
		}
		for _, fan := range []int{2, 3} {
			least := sorter.Least(fan, l...)
			for room := least; room <= max(all, least)+8; room += 8 {
				holds(t, orders[i%3], room, fan, l)
			}
		}
	}
}

// byChance tells n rows, of so many numbers; many are alike where these are few.
func byChance(r *rand.Rand, n, values int) []api.Row {
	var l []api.Row
	for range n {
		x := api.Row{V: r.Intn(values) - values/2}
		for _, name := range []string{"a", "b", "metric"} {
			if r.Intn(2) > 0 {
				x.Labels = append(x.Labels, api.Label{Name: name, Value: []string{"x", "y", "é", "\xff", strings.Repeat("long", 1+r.Intn(15))}[r.Intn(5)]})
			}
		}
		l = append(l, x)
	}
	return l
}

// P1801: of rows by chance.
func TestByChance(t *testing.T) {
	r := rand.New(rand.NewSource(18))
	for range 3000 {
		l := byChance(r, r.Intn(60), 1+r.Intn(30))
		fan := 2 + r.Intn(4)
		if r.Intn(3) == 0 {
			fan = 2 + r.Intn(mostFan-1)
		}
		room := sorter.Least(fan, l...)
		if r.Intn(2) == 0 {
			room += r.Intn(800)
		}
		holds(t, orders[r.Intn(len(orders))], room, fan, l)
	}
}

// P1802, W1: where each row is told apart by the order, the answer does not
// hang on the room, nor on how many runs are merged.
func TestAnswerDoesNotHangOnRoom(t *testing.T) {
	r := rand.New(rand.NewSource(1802))
	for range 150 {
		l := byChance(r, r.Intn(40), 20)
		apart := slices.CompactFunc(answer.Sort(api.ByLabels, l...), func(a, b api.Row) bool { return !answer.Less(api.ByLabels, a, b) })
		r.Shuffle(len(apart), func(i, j int) { apart[i], apart[j] = apart[j], apart[i] })
		for _, order := range orders[:3] {
			rows := l
			if order == api.ByLabels {
				rows = apart
			}
			want := answer.Sort(order, rows...)
			for fan := 2; fan <= mostFan; fan += 3 {
				least := sorter.Least(fan, rows...)
				for _, room := range []int{least, least + 1, least + 97, 2*least + 5, mostRoom} {
					if got, told, e := sorter.Sort(order, room, fan, rows...); e != api.OK || !row.Same(got, want) || told.High > room {
						t.Fatalf("Sort(%d, %d, %d) of %v: %v, %+v, %d", order, room, fan, rows, got, told, e)
					}
				}
			}
		}
	}
}

// P1801: as many rows as may be, by few and by many, in little room and in much.
func TestAsManyRowsAsMayBe(t *testing.T) {
	l := some(api.MaxRows)
	for _, c := range []struct {
		room, fan int
		told      sorter.Report
	}{
		{32, 2, sorter.Report{Runs: 1000, Merges: 999, High: 32}},
		{47, 2, sorter.Report{Runs: 1000, Merges: 999, High: 32}},
		{48, 3, sorter.Report{Runs: 667, Merges: 333, High: 48}},
		{320, 20, sorter.Report{Runs: 100, Merges: 6, High: 320}},
		{16 * 2000, 20, sorter.Report{Runs: 1, Merges: 0, High: 32000}},
		{16*2000 - 1, 20, sorter.Report{Runs: 2, Merges: 1, High: 16 * 1999}},
		{mostRoom, 2, sorter.Report{Runs: 1, Merges: 0, High: 32000}},
	} {
		for _, order := range orders[1:3] {
			got, told, e := sorter.Sort(order, c.room, c.fan, l...)
			if e != api.OK || told != c.told || !row.Same(got, answer.Sort(order, l...)) {
				t.Errorf("Sort(%d, %d, %d): %d rows, %+v, %d, not %+v", order, c.room, c.fan, len(got), told, e, c.told)
			}
		}
	}
	great := byChance(rand.New(rand.NewSource(1801)), api.MaxRows, api.MaxRows)
	for fan := 2; fan <= mostFan; fan += 6 {
		for _, order := range orders[:3] {
			holds(t, order, sorter.Least(fan, great...), fan, great)
		}
	}
}

// P1801: an order that the document does not name is as ByLabels.
func TestOtherOrders(t *testing.T) {
	l := list("d=5 b=1 c=0 b=2 16:7 a=3 b=9 a=1")
	want, took, _ := sorter.Sort(api.ByLabels, 60, 2, l...)
	for _, order := range orders[3:] {
		if got, told, e := sorter.Sort(order, 60, 2, l...); e != api.OK || told != took || !row.Same(got, want) {
			t.Errorf("Sort(%d): %v, %+v, %d", order, got, told, e)
		}
	}
}

// P1801: rows that may not be are sorted as they stand.
func TestOddRows(t *testing.T) {
	odd := []api.Row{
		{Labels: []api.Label{{Name: "b", Value: "1"}, {Name: "a", Value: ""}}, V: 1}, {Labels: []api.Label{{}, {}}, V: 1},
		{Labels: make([]api.Label, 20), V: 1}, {Labels: []api.Label{{Name: "a", Value: "1"}, {Name: "a", Value: "1"}}, V: math.MaxInt},
		{Labels: []api.Label{{Name: strings.Repeat("n", 99), Value: strings.Repeat("\xff", 999)}}, V: math.MinInt}, {Labels: []api.Label{}, V: 1}, {V: 1},
	}
	for _, order := range orders {
		for i := range odd {
			l := slices.Concat(odd[i:], odd[:i], odd)
			for _, fan := range []int{2, 3, mostFan} {
				holds(t, order, sorter.Least(fan, l...), fan, l)
				holds(t, order, mostRoom, fan, l)
			}
		}
	}
}

// parts tells all memory that rows have.
func parts(l []api.Row) []unsafe.Pointer {
	all := []unsafe.Pointer{unsafe.Pointer(unsafe.SliceData(l))}
	for _, r := range l {
		all = append(all, unsafe.Pointer(unsafe.SliceData(r.Labels)))
		for _, x := range r.Labels {
			all = append(all, unsafe.Pointer(unsafe.StringData(x.Name)), unsafe.Pointer(unsafe.StringData(x.Value)))
		}
	}
	return all
}

// Rule 2: an answer shares nothing with what was handed in, nor with another
// one, nor two rows of one with each other; of one run, and of several.
func TestAnswersAreNewMemory(t *testing.T) {
	x := api.Row{Labels: []api.Label{{Name: strings.Clone("name"), Value: strings.Clone("value")}, {Name: strings.Clone("other"), Value: strings.Clone("text")}}, V: 3}
	for _, l := range [][]api.Row{{x}, {x, x, x, x, x}} {
		for _, room := range []int{sorter.Least(2, x), mostRoom} {
			a, _, _ := sorter.Sort(api.Rising, room, 2, l...)
			b, _, _ := sorter.Sort(api.Rising, room, 2, l...)
			all := slices.Concat(parts([]api.Row{x}), parts(l)[:1], parts(a), parts(b))
			for i, p := range all {
				if slices.Contains(all[:i], p) {
					t.Fatalf("%d rows, room %d: part %d is shared", len(l), room, i)
				}
			}
			a[0].Labels[0], a[0].V = api.Label{}, 9
			if !row.Same(b, l) || l[0].V != 3 {
				t.Errorf("%d rows, room %d: %v, %v", len(l), room, b, l)
			}
		}
	}
}
