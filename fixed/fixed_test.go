package fixed_test

import (
	"math"
	"math/big"
	"slices"
	"strings"
	"testing"

	"leporello/api"
	"leporello/fixed"
)

const most = api.MaxV

// numbers are small ones, the edges, and the ones whose products are near the
// limit, or near that of an int.
func numbers() []int {
	l := []int{0}
	for _, v := range []int{1, 2, 3, 7, 10, 99, 1000, 999_999, 1_000_000, 1_000_001, 1 << 31, 1 << 32, 3_037_000_500, 18_446_744, 184_467_440_737, most/3 + 1, most / 2, most/2 + 1, most - 1, most} {
		l = append(l, v, -v)
	}
	return l
}

// wrong are numbers that are not Right.
func wrong() []int {
	return []int{most + 1, -most - 1, 2 * most, math.MaxInt, math.MinInt, math.MinInt + 1, 1 << 53}
}

// texts tells all texts of at most n of these.
func texts(alphabet []string, n int) []string {
	all := []string{""}
	for from, round := 0, 0; round < n; round++ {
		end := len(all)
		for _, s := range all[from:end] {
			for _, x := range alphabet {
				all = append(all, s+x)
			}
		}
		from = end
	}
	return all
}

// times tells n times the same number.
func times(n, v int) []int { return slices.Repeat([]int{v}, n) }

// P401
func TestRight(t *testing.T) {
	for _, v := range numbers() {
		if !fixed.Right(v) {
			t.Errorf("Right(%d)", v)
		}
	}
	for _, v := range wrong() {
		if fixed.Right(v) {
			t.Errorf("Right(%d)", v)
		}
	}
}

// P401
func TestDo(t *testing.T) {
	for _, c := range []struct {
		op   string
		a, b int
		want int
		e    api.Errno
	}{
		{"+", 2, 3, 5, 0}, {"+", most, -most, 0, 0}, {"+", most - 1, 1, most, 0}, {"+", 1 - most, -1, -most, 0}, {"+", most, 1, 0, api.ErrOver}, {"+", -most, -1, 0, api.ErrOver}, {"+", most, most, 0, api.ErrOver},
		{"-", 2, 3, -1, 0}, {"-", most, most, 0, 0}, {"-", 0, most, -most, 0}, {"-", -most, 1, 0, api.ErrOver}, {"-", most, -1, 0, api.ErrOver},
		{"*", 2, -3, -6, 0}, {"*", 0, most, 0, 0}, {"*", most, 0, 0, 0}, {"*", 1_000_000, 1_000_000, most, 0}, {"*", -1_000_000, 1_000_000, -most, 0}, {"*", most, -1, -most, 0}, {"*", -most, -1, most, 0},
		{"*", 1_000_001, 1_000_000, 0, api.ErrOver}, {"*", most, 2, 0, api.ErrOver}, {"*", most, most, 0, api.ErrOver}, {"*", -most, most, 0, api.ErrOver},
		{"*", 1 << 32, 1 << 32, 0, api.ErrOver}, {"*", 1 << 33, 1 << 31, 0, api.ErrOver}, {"*", -(1 << 33), 1 << 31, 0, api.ErrOver}, // products that an int turns into 0
		{"/", 7, 2, 3, 0}, {"/", -7, 2, -3, 0}, {"/", 7, -2, -3, 0}, {"/", -7, -2, 3, 0}, {"/", 1, 2, 0, 0}, {"/", -1, 2, 0, 0}, {"/", 0, 5, 0, 0}, {"/", -most, -1, most, 0},
		{"%", 7, 2, 1, 0}, {"%", -7, 2, -1, 0}, {"%", 7, -2, 1, 0}, {"%", -7, -2, -1, 0}, {"%", 5, most, 5, 0}, {"%", -most, -1, 0, 0},
		{"/", 0, 0, 0, api.ErrDiv}, {"/", most, 0, 0, api.ErrDiv}, {"%", 5, 0, 0, api.ErrDiv}, {"%", 0, 0, 0, api.ErrDiv},
		{"==", 4, 4, 1, 0}, {"==", 4, 5, 0, 0}, {"==", -4, 4, 0, 0}, {"!=", 4, 4, 0, 0}, {"!=", 4, 5, 1, 0},
		{"<", 4, 5, 1, 0}, {"<", 4, 4, 0, 0}, {"<", 5, 4, 0, 0}, {"<=", 4, 5, 1, 0}, {"<=", 4, 4, 1, 0}, {"<=", 5, 4, 0, 0},
		{">", 5, 4, 1, 0}, {">", 4, 4, 0, 0}, {">", 4, 5, 0, 0}, {">=", 5, 4, 1, 0}, {">=", 4, 4, 1, 0}, {">=", 4, 5, 0, 0},
		{"<", -most, most, 1, 0}, {">", -most, most, 0, 0}, {"==", 0, 0, 1, 0}, {"!=", 0, 0, 0, 0},
	} {
		if got, e := fixed.Do(c.op, c.a, c.b); got != c.want || e != c.e {
			t.Errorf("%d %s %d: %d, %d, not %d, %d", c.a, c.op, c.b, got, e, c.want, c.e)
		}
	}
}

// byWords is P401's Do of two Right numbers, in numbers that have no limit.
func byWords(op string, a, b int) (int, api.Errno) {
	x, y := big.NewInt(int64(a)), big.NewInt(int64(b))
	truth := map[string]bool{"==": a == b, "!=": a != b, "<": a < b, "<=": a <= b, ">": a > b, ">=": a >= b}
	if is, ok := truth[op]; ok {
		if is {
			return 1, api.OK
		}
		return 0, api.OK
	}
	if b == 0 && (op == "/" || op == "%") {
		return 0, api.ErrDiv
	}
	got := new(big.Int)
	switch op {
	case "+":
		got.Add(x, y)
	case "-":
		got.Sub(x, y)
	case "*":
		got.Mul(x, y)
	case "/":
		got.Quo(x, y)
	case "%":
		got.Rem(x, y)
	}
	if got.CmpAbs(big.NewInt(most)) > 0 {
		return 0, api.ErrOver
	}
	return int(got.Int64()), api.OK
}

// ops tells all ops: those that reckon, and those that compare.
func ops() ([]string, []string) {
	return []string{"+", "-", "*", "/", "%"}, []string{"==", "!=", "<", "<=", ">", ">="}
}

// P401: of each op, and each pair of numbers.
func TestDoOfEachPair(t *testing.T) {
	reckon, compare := ops()
	for _, op := range append(reckon, compare...) {
		for _, a := range numbers() {
			for _, b := range numbers() {
				want, wantE := byWords(op, a, b)
				if got, e := fixed.Do(op, a, b); got != want || e != wantE {
					t.Fatalf("%d %s %d: %d, %d, not %d, %d", a, op, b, got, e, want, wantE)
				}
			}
		}
	}
}

// P401: a number that is not Right is ErrArg, also where another error fits.
func TestDoOfWrongNumbers(t *testing.T) {
	reckon, compare := ops()
	for _, op := range append(reckon, compare...) {
		for _, v := range wrong() {
			for _, pair := range [][2]int{{v, 1}, {1, v}, {v, v}, {v, 0}, {0, v}, {v, -v}, {v, most}} {
				if got, e := fixed.Do(op, pair[0], pair[1]); got != 0 || e != api.ErrArg {
					t.Errorf("%d %s %d: %d, %d", pair[0], op, pair[1], got, e)
				}
			}
		}
	}
}

// P401: of all short texts, just the ops are some.
func TestOps(t *testing.T) {
	reckon, compare := ops()
	all := texts([]string{"+", "-", "*", "/", "%", "=", "!", "<", ">", " ", "\x00", "a", "é", "\xff", "\uFFFD"}, 3)
	all = append(all, strings.Repeat("=", 1000), strings.Repeat("<", 1000), "+"+strings.Repeat(" ", 1000), "\u226A", "\u2212", "add", "==\n", "and")
	for _, op := range all {
		compares := slices.Contains(compare, op)
		if got := fixed.Compares(op); got != compares {
			t.Errorf("Compares(%q): %v", op, got)
		}
		want := api.ErrArg
		if compares || slices.Contains(reckon, op) {
			want = api.OK
		}
		if got, e := fixed.Do(op, 6, 2); e != want || e != api.OK && got != 0 {
			t.Errorf("6 %q 2: %d, %d", op, got, e)
		}
		// No op is ErrArg, also by 0.
		if got, e := fixed.Do(op, 6, 0); want == api.ErrArg && (got != 0 || e != want) {
			t.Errorf("6 %q 0: %d, %d", op, got, e)
		}
	}
}

// P402
func TestSum(t *testing.T) {
	for _, c := range []struct {
		l    []int
		want int
		e    api.Errno
	}{
		{nil, 0, 0}, {[]int{}, 0, 0}, {[]int{5}, 5, 0}, {[]int{4, 1, 9}, 14, 0}, {[]int{4, -1, -9}, -6, 0},
		{[]int{most}, most, 0}, {[]int{-most}, -most, 0}, {[]int{most - 1, 1}, most, 0}, {[]int{1 - most, -1}, -most, 0},
		{[]int{most, 1}, 0, api.ErrOver}, {[]int{-most, -1}, 0, api.ErrOver},
		{[]int{most, 1, -1}, most, 0}, {[]int{most, most, -most}, most, 0}, {[]int{-most, -most, most, most, 7}, 7, 0}, // only the whole sum counts
		{[]int{most, most, -most, 1}, 0, api.ErrOver},
		{times(api.MaxRows, 1), api.MaxRows, 0}, {times(api.MaxRows, most), 0, api.ErrOver}, {times(api.MaxRows, -most), 0, api.ErrOver},
		{slices.Concat(times(api.MaxRows/2, most), times(api.MaxRows/2, -most)), 0, 0},
		{times(api.MaxRows+1, 1), 0, api.ErrArg}, {times(api.MaxRows+1, 0), 0, api.ErrArg}, {times(api.MaxRows+1, most), 0, api.ErrArg},
		{[]int{most + 1}, 0, api.ErrArg}, {[]int{-most - 1}, 0, api.ErrArg}, {[]int{1, most + 1, -most}, 0, api.ErrArg},
		{[]int{most, most, most + 1}, 0, api.ErrArg}, // ahead of ErrOver
		{[]int{math.MaxInt, math.MinInt}, 0, api.ErrArg}, {[]int{math.MaxInt, 1}, 0, api.ErrArg}, {[]int{1, 2, math.MinInt}, 0, api.ErrArg},
	} {
		if got, e := fixed.Sum(c.l...); got != c.want || e != c.e {
			t.Errorf("Sum(%d): %d, %d, not %d, %d", c.l, got, e, c.want, c.e)
		}
	}
}

// P402
func TestMean(t *testing.T) {
	for _, c := range []struct {
		l    []int
		want int
		e    api.Errno
	}{
		{nil, 0, api.ErrNone}, {[]int{}, 0, api.ErrNone},
		{[]int{5}, 5, 0}, {[]int{0}, 0, 0}, {[]int{4, 1, 9}, 4, 0}, {[]int{1, 2}, 1, 0}, {[]int{-1, -2}, -1, 0}, {[]int{-1, 0}, 0, 0}, {[]int{-5, 2}, -1, 0}, {[]int{3, 3, 2}, 2, 0}, // towards 0
		{[]int{most, most}, most, 0}, {[]int{-most, -most, -most}, -most, 0}, {[]int{most, most, -most}, most / 3, 0}, // also of a sum that is not Right
		{times(api.MaxRows, most), most, 0}, {times(api.MaxRows, -most), -most, 0},
		{append(times(api.MaxRows-1, most), most-1), most - 1, 0},
		{times(api.MaxRows+1, 1), 0, api.ErrArg}, {[]int{most + 1}, 0, api.ErrArg}, {[]int{1, -most - 1}, 0, api.ErrArg}, {[]int{math.MaxInt, math.MinInt}, 0, api.ErrArg},
	} {
		if got, e := fixed.Mean(c.l...); got != c.want || e != c.e {
			t.Errorf("Mean(%d): %d, %d, not %d, %d", c.l, got, e, c.want, c.e)
		}
	}
}

// P402
func TestRank(t *testing.T) {
	for _, c := range []struct {
		p    int
		l    []int
		want int
		ok   bool
	}{
		{50, []int{4, 1, 9}, 4, true}, // the chapter's example
		{0, []int{4, 1, 9}, 1, true}, {1, []int{4, 1, 9}, 1, true}, {33, []int{4, 1, 9}, 1, true}, {34, []int{4, 1, 9}, 4, true}, {66, []int{4, 1, 9}, 4, true}, {67, []int{4, 1, 9}, 9, true}, {100, []int{4, 1, 9}, 9, true},
		{50, []int{2, 1}, 1, true}, {51, []int{2, 1}, 2, true}, {25, []int{4, 3, 2, 1}, 1, true}, {26, []int{4, 3, 2, 1}, 2, true},
		{0, []int{7}, 7, true}, {50, []int{7}, 7, true}, {100, []int{7}, 7, true},
		{50, []int{5, 5, 1, 5}, 5, true}, {25, []int{5, 5, 1, 5}, 1, true}, {50, []int{-3, 0, -7}, -3, true}, {0, []int{0, -3}, -3, true},
		{0, nil, 0, false}, {50, nil, 0, false}, {100, []int{}, 0, false}, {-1, nil, 0, false},
		{-1, []int{1, 2}, 0, false}, {101, []int{1, 2}, 0, false}, {math.MaxInt, []int{1}, 0, false}, {math.MinInt, []int{1}, 0, false},
		{100, []int{math.MinInt, most + 1, math.MaxInt}, math.MaxInt, true}, {0, []int{math.MaxInt, math.MinInt}, math.MinInt, true}, // nothing is said of a limit
		{100, append(times(api.MaxRows, 1), 2), 2, true},
	} {
		if got, ok := fixed.Rank(c.p, c.l...); got != c.want || ok != c.ok {
			t.Errorf("Rank(%d, %d): %d, %v, not %d, %v", c.p, c.l, got, ok, c.want, c.ok)
		}
	}
}

// P402: of each number of numbers, and each place: the number at place k of
// 2, 4, 6, .. is 2k.
func TestRankOfEachPlace(t *testing.T) {
	for n := 1; n <= 210; n++ {
		var l []int
		for i := range n {
			// 211 is a prime above each n, so that each place is hit once.
			l = append(l, 2*(i*211%n+1))
		}
		for p := 0; p <= 100; p++ {
			// The least k with 100 k not below p n.
			k := 1
			for 100*k < p*n {
				k++
			}
			if got, ok := fixed.Rank(p, l...); !ok || got != 2*k {
				t.Fatalf("Rank(%d, %d): %d, %v, not %d", p, l, got, ok, 2*k)
			}
		}
	}
}

// Rule 2: nothing writes into what was handed in.
func TestNothingIsWrittenInto(t *testing.T) {
	l := []int{4, 1, 9, -2}
	fixed.Sum(l...)
	fixed.Mean(l...)
	fixed.Rank(50, l...)
	if !slices.Equal(l, []int{4, 1, 9, -2}) {
		t.Errorf("handed in, and now %d", l)
	}
}
