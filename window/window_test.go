package window_test

import (
	"math"
	"math/big"
	"slices"
	"strings"
	"testing"

	"leporello/api"
	"leporello/window"
)

const (
	most = api.MaxV
	late = api.MaxT
)

// at tells points of times and numbers, one behind the other.
func at(x ...int) []api.Point {
	var l []api.Point
	for i := 0; i < len(x); i += 2 {
		l = append(l, api.Point{T: x[i], V: x[i+1]})
	}
	return l
}

// of tells points of these numbers, one time behind the other.
func of(numbers ...int) []api.Point {
	var l []api.Point
	for i, v := range numbers {
		l = append(l, api.Point{T: i, V: v})
	}
	return l
}

// many tells n points that may be, but for how many they are.
func many(n int) []api.Point {
	return of(slices.Repeat([]int{7}, n)...)
}

// rightOnes are lists of points that may be.
func rightOnes() [][]api.Point {
	return [][]api.Point{
		nil, {}, at(0, 0), at(late, most), at(0, -most), at(0, most, late, -most), at(5, 1, 6, 1, 7, 1), at(3, 9, 100, 2, 101, -4),
		at(late-1, 0, late, 0), many(1), many(24), many(25),
	}
}

// wrongOnes are lists of points that may not be.
func wrongOnes() [][]api.Point {
	return [][]api.Point{
		at(-1, 0), at(late+1, 0), at(math.MinInt, 0), at(math.MaxInt, 0), at(-1, 0, 0, 0), at(0, 0, late+1, 0),
		at(0, most+1), at(0, -most-1), at(0, math.MaxInt), at(0, math.MinInt), at(0, 1, 1, most+1), at(0, -most-1, 1, 1), at(0, 1, 1, math.MinInt, 2, 1),
		at(4, 1, 4, 1), at(4, 1, 4, 2), at(5, 1, 4, 1), at(1, 0, 2, 0, 2, 0), at(1, 0, 3, 0, 2, 0), at(0, 0, 0, 0), at(late, 0, late, 0), at(3, 0, 4, 0, 3, 0), at(5, 0, 3, 0, 4, 0),
		many(26), many(27), many(2000),
	}
}

// P501
func TestRight(t *testing.T) {
	for _, l := range rightOnes() {
		if !window.Right(l) {
			t.Errorf("Right(%v): false", l)
		}
	}
	for _, l := range wrongOnes() {
		if window.Right(l) {
			t.Errorf("Right(%v): true", l)
		}
	}
}

// P501
func TestOf(t *testing.T) {
	five := at(10, 1, 20, 2, 30, 3, 40, 4, 50, 5)
	for _, c := range []struct {
		l    []api.Point
		t, w int
		want []api.Point
	}{
		{five, 50, 50, five}, {five, 50, 41, five}, {five, 50, 40, five[1:]}, {five, 49, 50, five[:4]}, {five, 60, 50, five[1:]}, // above the one, at most the other
		{five, 30, 10, five[2:3]}, {five, 30, 11, five[1:3]}, {five, 30, 1, five[2:3]}, {five, 30, 0, nil}, {five, 0, 0, nil}, {five, 39, 9, nil}, {five, 39, 10, five[2:3]},
		{five, 9, late, nil}, {five, 10, late, five[:1]}, {five, late, late, five}, {five, late, late - 10, five[1:]}, {five, late, late - 9, five}, {five, late, 300, nil},
		{nil, 5, 5, nil}, {at(0, 8), 0, 0, nil}, {at(0, 8), 0, 1, at(0, 8)}, {at(0, 8), 5, 5, nil}, {at(0, 8), 5, 6, at(0, 8)}, {at(late, 8), late, 1, at(late, 8)}, {at(late, 8), late, 0, nil}, {at(late, 8), late - 1, late, nil},
		{five, -1, 10, nil}, {five, 30, -1, nil}, {five, late + 1, late, nil}, {five, late, late + 1, nil}, {five, math.MinInt, math.MinInt, nil}, {five, 30, math.MinInt, nil}, {five, math.MaxInt, math.MaxInt, nil}, {five, 30, math.MaxInt, nil}, {five, math.MinInt, 1, nil},
		{many(25), 24, 25, many(25)}, {many(26), 24, 25, nil},
	} {
		got := window.Of(c.l, c.t, c.w)
		if !slices.Equal(got, c.want) {
			t.Errorf("Of(%v, %d, %d): %v, not %v", c.l, c.t, c.w, got, c.want)
		}
		holdLast(t, c.l, c.t, c.w, c.want)
	}
}

// holdLast holds Last against those points of a while that there are.
func holdLast(t *testing.T, l []api.Point, at, w int, those []api.Point) {
	t.Helper()
	want, wantIs := 0, len(those) > 0
	if wantIs {
		want = those[len(those)-1].V
	}
	if got, is := window.Last(l, at, w); got != want || is != wantIs {
		t.Errorf("Last(%v, %d, %d): %d, %v, not %d, %v", l, at, w, got, is, want, wantIs)
	}
}

// P501
func TestLast(t *testing.T) {
	five := at(10, 1, 20, 2, 30, 3, 40, 0, 50, -5)
	for _, c := range []struct {
		t, w int
		want int
		is   bool
	}{
		{50, 50, -5, true}, {49, 50, 0, true}, {40, 1, 0, true}, {39, 50, 3, true}, {349, 300, -5, true}, {350, 300, 0, false}, {9, 300, 0, false}, {50, 0, 0, false}, {-1, 5, 0, false}, {50, -1, 0, false}, {late + 1, 50, 0, false}, {50, late + 1, 0, false},
	} {
		if got, is := window.Last(five, c.t, c.w); got != c.want || is != c.is {
			t.Errorf("Last at %d of %d: %d, %v, not %d, %v", c.t, c.w, got, is, c.want, c.is)
		}
	}
}

// P501: of lists that may not be, there is none.
func TestOfAndLastOfWrongLists(t *testing.T) {
	for _, l := range wrongOnes() {
		for _, at := range []int{0, 1, 4, 5, 50, late} {
			for _, w := range []int{0, 1, 5, late} {
				if got := window.Of(l, at, w); len(got) > 0 {
					t.Errorf("Of(%v, %d, %d): %v", l, at, w, got)
				}
				holdLast(t, l, at, w, nil)
			}
		}
	}
}

// P501: of each short list, at each time, of each while.
func TestEachWhile(t *testing.T) {
	const end = 7
	for set := range 1 << end {
		var l []api.Point
		for i := range end {
			if set>>i&1 == 1 {
				l = append(l, api.Point{T: i, V: 100 + i})
			}
		}
		for at := range end + 2 {
			for w := range end + 3 {
				var want []api.Point
				for time := at - w + 1; time <= at; time++ {
					if i := slices.IndexFunc(l, func(p api.Point) bool { return p.T == time }); i >= 0 {
						want = append(want, l[i])
					}
				}
				if got := window.Of(l, at, w); !slices.Equal(got, want) {
					t.Fatalf("Of(%v, %d, %d): %v, not %v", l, at, w, got, want)
				}
				holdLast(t, l, at, w, want)
			}
		}
	}
}

// Rule 2: an answer is new each time, and nothing is written into what was
// handed in.
func TestAnswersAreNew(t *testing.T) {
	l := at(10, 4, 20, 2, 30, 9)
	kept := slices.Clone(l)
	first, second := window.Of(l, 30, 30), window.Of(l, 30, 30)
	for i := range first {
		first[i] = api.Point{T: 77, V: 77}
	}
	_ = append(first[:1], api.Point{T: 78, V: 78})
	for _, name := range fns() {
		window.Do(name, l)
	}
	window.Right(l)
	window.Last(l, 30, 30)
	if !slices.Equal(l, kept) || !slices.Equal(second, kept) {
		t.Errorf("%v, %v, not %v", l, second, kept)
	}
}

// fns tells the names of all functions.
func fns() []string {
	return []string{"sum_over", "min_over", "max_over", "count_over", "avg_over", "last_over", "increase", "rate"}
}

// noFns tells texts that are near the names of functions, and others.
func noFns() []string {
	l := []string{"", " ", "_", "over", "_over", "first_over", "mean_over", "sum", "min", "max", "count", "avg", "last", "topk", "quantile", "irate", "delta", "increase_over", "rate_over", "increases", "sum over", "sum-over", "sumOver", "sum__over", "\x00", "\xff", "é", "sum_\uFF4Fver", strings.Repeat("rate", 1000)}
	for _, name := range fns() {
		l = append(l, strings.ToUpper(name), name[:len(name)-1], name[1:], name+" ", " "+name, name+"\n", name+"\x00", name+name, strings.ToUpper(name[:1])+name[1:])
	}
	return l
}

// P502
func TestFn(t *testing.T) {
	for _, name := range fns() {
		if !window.Fn(name) {
			t.Errorf("Fn(%q): false", name)
		}
	}
	for _, name := range noFns() {
		if window.Fn(name) {
			t.Errorf("Fn(%q): true", name)
		}
		for _, l := range append(rightOnes(), wrongOnes()...) {
			hold(t, name, l, 0, false, api.ErrArg)
		}
	}
}

// hold holds Do against what it should tell.
func hold(t *testing.T, name string, l []api.Point, want int, wantIs bool, wantE api.Errno) {
	t.Helper()
	if got, is, e := window.Do(name, l); got != want || is != wantIs || e != wantE {
		t.Errorf("Do(%q, %v): %d, %v, %d, not %d, %v, %d", name, l, got, is, e, want, wantIs, wantE)
	}
}

// P502
func TestDo(t *testing.T) {
	for _, c := range []struct {
		name string
		l    []api.Point
		want int
	}{
		{"sum_over", of(5, 9, 2), 16}, {"sum_over", of(-5), -5}, {"sum_over", of(0), 0}, {"sum_over", of(most, 1, -1), most}, {"sum_over", of(-most, -1, 1), -most}, {"sum_over", of(most, most, -most), most}, {"sum_over", many(25), 175},
		{"min_over", of(5, 9, 2), 2}, {"min_over", of(2, 9, 5), 2}, {"min_over", of(most, -most), -most}, {"min_over", of(0, 0), 0}, {"min_over", of(3), 3}, {"min_over", of(1, most, most), 1},
		{"max_over", of(5, 9, 2), 9}, {"max_over", of(9, 2, 5), 9}, {"max_over", of(-9, -2, -5), -2}, {"max_over", of(-most, most), most}, {"max_over", of(3), 3}, {"max_over", of(-most, -most), -most},
		{"count_over", of(5, 9, 2), 3}, {"count_over", of(0), 1}, {"count_over", many(25), 25}, {"count_over", of(most, most), 2},
		{"avg_over", of(5, 9, 2), 5}, {"avg_over", of(7, 8), 7}, {"avg_over", of(-7, -8), -7}, {"avg_over", of(1, -2), 0}, {"avg_over", of(most, most, most), most}, {"avg_over", of(-most, -most), -most}, {"avg_over", of(4), 4},
		{"last_over", of(5, 9, 2), 2}, {"last_over", of(5, 9, -12), -12}, {"last_over", of(4), 4}, {"last_over", of(most, most, 0), 0}, {"last_over", of(1, most), most},
		{"increase", of(5, 9, 2), 6}, // the chapter's example
		{"increase", of(5, 9), 4}, {"increase", of(9, 5), 5}, {"increase", of(5, 5), 0}, {"increase", of(5, 5, 4), 4}, {"increase", of(0, 0, 0), 0}, {"increase", of(9, 0), 0}, {"increase", of(9, 0, 3), 3}, {"increase", of(1, 2, 3, 4), 3}, {"increase", of(4, 3, 2, 1), 6}, {"increase", of(-5, 5), 10},
		{"increase", of(5, -3), -3}, {"increase", of(-3, -5, -7), -12}, {"increase", of(-5, -3), 2}, // what falls below 0 is taken as it stands
		{"increase", of(0, most), most}, {"increase", of(-most, 0), most}, {"increase", of(most, -most), -most}, {"increase", of(-1, most-1), most}, {"increase", of(most, most, most), 0}, {"increase", of(1, most, 1), most},
		{"increase", of(0, most, 1, -5), most - 4}, {"increase", of(0, most, most-1, -most, -most), most - 1}, {"increase", of(0, -most, -most, 0, -7), -7}, // only the whole sum counts
		{"increase", of(0, -most, 0, most, -most, 0, -most), 0}, {"increase", at(3, 1, 900, 4), 3},
		{"rate", of(5, 9), 4000}, {"rate", of(5, 9, 2), 3000}, {"rate", at(0, 5, 10, 9, 20, 2), 300}, {"rate", at(7, 5, 10, 9), 1333}, {"rate", at(7, 5, 10, -8), -2666}, {"rate", at(0, 5, 100, 5), 0}, {"rate", at(0, 0, late, 1), 0},
		{"rate", at(0, 0, 3, 1_000_000_000), most / 3}, {"rate", at(0, 0, 1, 1_000_000_000), most}, {"rate", at(0, 1, 1, -1_000_000_000), -most}, {"rate", at(0, 0, late, 1_000_000), 1}, {"rate", at(0, 0, late, 999_999), 0}, {"rate", at(0, 0, 1, -1, late, -2), 0}, {"rate", at(late-2, 3, late-1, 1, late, 5), 2500},
	} {
		hold(t, c.name, c.l, c.want, true, api.OK)
	}
}

// P502: what comes, or a part of it, is not Right.
func TestDoOver(t *testing.T) {
	for _, c := range []struct {
		name string
		l    []api.Point
	}{
		{"sum_over", of(most, 1)}, {"sum_over", of(-most, -1)}, {"sum_over", of(most, most, -most, 1)}, {"sum_over", of(slices.Repeat([]int{most}, 25)...)},
		{"increase", of(-1, most)}, {"increase", of(-most, 1)}, {"increase", of(-most, most)}, // a difference
		{"increase", of(-most, most, -most)}, {"increase", of(5, 4, -1, most, -most, 0)}, // also if the sum would be Right
		{"increase", of(0, most, 1)}, {"increase", of(0, -most, -most+5, -most)}, {"increase", of(0, most, most-1, most-2)}, {"increase", of(0, -most, -1, -2, -3, -most, -most)}, // a sum
		{"rate", of(-1, most)}, {"rate", of(0, most, 1)}, {"rate", of(-most, most, -most)},
		{"rate", at(0, 0, 1, 1_000_000_001)}, {"rate", at(0, 0, late, 1_000_000_001)}, {"rate", at(0, 1, late, -1_000_000_001)}, {"rate", at(0, 0, late, most)}, // times 1,000
	} {
		hold(t, c.name, c.l, 0, false, api.ErrOver)
	}
}

// byWords is P502's Do of points that may be, in numbers that have no limit.
func byWords(name string, l []api.Point) (int, bool, api.Errno) {
	if len(l) == 0 || len(l) == 1 && (name == "increase" || name == "rate") {
		return 0, false, api.OK
	}
	over := func(x *big.Int) bool { return x.CmpAbs(big.NewInt(most)) > 0 }
	sum, grown, part := new(big.Int), new(big.Int), false
	least, greatest := l[0].V, l[0].V
	for i, p := range l {
		v := big.NewInt(int64(p.V))
		sum.Add(sum, v)
		least, greatest = min(least, p.V), max(greatest, p.V)
		if i > 0 && p.V >= l[i-1].V {
			v.Sub(v, big.NewInt(int64(l[i-1].V)))
		}
		if i > 0 {
			grown.Add(grown, v)
			part = part || over(v)
		}
	}
	got := map[string]*big.Int{
		"sum_over": sum, "min_over": big.NewInt(int64(least)), "max_over": big.NewInt(int64(greatest)), "count_over": big.NewInt(int64(len(l))),
		"avg_over": new(big.Int).Quo(sum, big.NewInt(int64(len(l)))), "last_over": big.NewInt(int64(l[len(l)-1].V)), "increase": grown,
	}[name]
	bad := (name == "increase" || name == "rate") && (part || over(grown))
	if name == "rate" {
		got = new(big.Int).Mul(grown, big.NewInt(1000))
		bad = bad || over(got)
		got.Quo(got, big.NewInt(int64(max(l[len(l)-1].T-l[0].T, 1))))
	}
	if bad || over(got) {
		return 0, false, api.ErrOver
	}
	return int(got.Int64()), true, api.OK
}

// P502: each function of each short list, at times that are near and far.
func TestDoOfEachList(t *testing.T) {
	lists := [][]int{nil}
	for from := 0; len(lists[from]) < 5; from++ {
		for _, v := range []int{-most, -1_000_000_000, -1, 0, 3, 1_000_000_001, most} {
			lists = append(lists, append(slices.Clone(lists[from]), v))
		}
	}
	for _, numbers := range lists {
		for _, gap := range []int{1, 7, 200_000_000} {
			l := of(numbers...)
			for i := range l {
				l[i].T *= gap
			}
			for _, name := range fns() {
				want, is, e := byWords(name, l)
				hold(t, name, l, want, is, e)
			}
		}
	}
}

// P502: of too few points there is none, and of wrong ones ErrArg.
func TestDoOfFewAndWrong(t *testing.T) {
	for _, name := range fns() {
		hold(t, name, nil, 0, false, api.OK)
		hold(t, name, []api.Point{}, 0, false, api.OK)
		for _, l := range wrongOnes() {
			hold(t, name, l, 0, false, api.ErrArg)
		}
	}
	for _, one := range [][]api.Point{at(0, 5), at(late, -most), at(9, 0)} {
		hold(t, "increase", one, 0, false, api.OK)
		hold(t, "rate", one, 0, false, api.OK)
	}
}
