package row_test

import (
	"math"
	"math/rand"
	"slices"
	"strconv"
	"strings"
	"testing"
	"unicode/utf8"
	"unsafe"

	"leporello/api"
	"leporello/glyph"
	"leporello/row"
)

const most = api.MaxV

// rowOf tells a row of a number, and of names and values in turn.
func rowOf(v int, pairs ...string) api.Row {
	var l []api.Label
	for at := 0; at+1 < len(pairs); at += 2 {
		l = append(l, api.Label{Name: pairs[at], Value: pairs[at+1]})
	}
	return api.Row{Labels: l, V: v}
}

// as tells a row of n labels a, b and on, each of that value.
func as(n, v int, value string) api.Row {
	var pairs []string
	for i := range n {
		pairs = append(pairs, string(rune('a'+i)), value)
	}
	return rowOf(v, pairs...)
}

// greatest tells the row of the most bytes.
func greatest() api.Row {
	r := as(api.MaxLabels, most, strings.Repeat("\xff", api.MaxValue))
	for i := range r.Labels {
		r.Labels[i].Name = strings.Repeat("\U00010000", api.MaxName-1) + string(rune(0x10000+i))
	}
	return r
}

// tell tells rows as a text.
func tell(l ...api.Row) string {
	var b strings.Builder
	for _, r := range l {
		for _, x := range r.Labels {
			b.WriteString(strconv.Quote(x.Name) + "=" + strconv.Quote(x.Value) + " ")
		}
		b.WriteString(strconv.Itoa(r.V) + ", ")
	}
	return b.String()
}

// same tells whether two rows say the same.
func same(a, b api.Row) bool { return a.V == b.V && slices.Equal(a.Labels, b.Labels) }

// wrongRows are rows that Put refuses.
func wrongRows() []api.Row {
	all := []api.Row{
		rowOf(1, "b", "x", "a", "x"), rowOf(1, "a", "x", "a", "x"), rowOf(1, "a", "x", "a", "y"), rowOf(1, "a", "x", "c", "x", "b", "x"), // not tidy
		rowOf(1, "", "x"), rowOf(1, "1", "x"), rowOf(1, "a-b", "x"), rowOf(1, "a ", "x"), rowOf(1, "a\xff", "x"), rowOf(1, "\uFFFD", "x"), rowOf(1, "a", "x", "é\xc3", "x"),
		rowOf(1, strings.Repeat("a", api.MaxName+1), "x"), rowOf(1, strings.Repeat("é", api.MaxName+1), "x"), rowOf(1, strings.Repeat("a", 256+3), "x"),
		rowOf(1, "a", ""), rowOf(1, "a", "x", "b", ""), rowOf(1, "a", strings.Repeat("x", api.MaxValue+1)), rowOf(1, "a", strings.Repeat("x", 256+3)), rowOf(1, "a", strings.Repeat("é", api.MaxValue/2)+"x"),
		as(api.MaxLabels+1, 1, "x"), as(api.MaxLabels+1, most+1, "x"),
	}
	for _, v := range []int{most + 1, -most - 1, 2 * most, -2 * most, 1 << 47, 1 << 48, most + 1<<48, math.MaxInt, math.MinInt, math.MaxInt - most + 1} {
		all = append(all, rowOf(v), rowOf(v, "a", "x"))
	}
	return all
}

// told tells by the chapter's words what Put tells of a row that may be.
func told(r api.Row) string {
	var b []byte
	b = append(b, byte(len(r.Labels)))
	for _, x := range r.Labels {
		b = append(b, byte(len(x.Name)))
		b = append(b, x.Name...)
		b = append(b, byte(len(x.Value)))
		b = append(b, x.Value...)
	}
	// Digits to the base of 256, the highest first.
	rest, digits := r.V+most, [6]byte{}
	for i := range digits {
		digits[5-i] = byte(rest % 256)
		rest /= 256
	}
	return string(append(b, digits[:]...))
}

// P1301
func TestPutTellsBytes(t *testing.T) {
	for _, c := range []struct {
		r    api.Row
		want string
	}{
		// MaxV is 0x00E8D4A51000.
		{rowOf(0), "\x00\x00\xe8\xd4\xa5\x10\x00"},
		{rowOf(1), "\x00\x00\xe8\xd4\xa5\x10\x01"},
		{rowOf(-1), "\x00\x00\xe8\xd4\xa5\x0f\xff"},
		{rowOf(most), "\x00\x01\xd1\xa9\x4a\x20\x00"},
		{rowOf(-most), "\x00\x00\x00\x00\x00\x00\x00"},
		{rowOf(1 - most), "\x00\x00\x00\x00\x00\x00\x01"},
		{rowOf(0x010203040506-most, "a", "x"), "\x01\x01a\x01x\x01\x02\x03\x04\x05\x06"},
		{rowOf(5, "a", "x"), "\x01\x01a\x01x\x00\xe8\xd4\xa5\x10\x05"},
		{rowOf(5, "a", "x", "bc", "yz\x00"), "\x02\x01a\x01x\x02bc\x03yz\x00\x00\xe8\xd4\xa5\x10\x05"},
		{rowOf(0, "host", "a", api.Metric, "cpu"), "\x02\x04host\x01a\x06metric\x03cpu\x00\xe8\xd4\xa5\x10\x00"},
		{rowOf(0, "é", "日\xff"), "\x01\x02é\x04日\xff\x00\xe8\xd4\xa5\x10\x00"}, // bytes are counted, not runes
		{api.Row{Labels: []api.Label{}, V: 0}, "\x00\x00\xe8\xd4\xa5\x10\x00"},
		{rowOf(0, "a", strings.Repeat("x", api.MaxValue)), "\x01\x01a\x3c" + strings.Repeat("x", 60) + "\x00\xe8\xd4\xa5\x10\x00"},
		{rowOf(0, strings.Repeat("\U0001F600", api.MaxName), "x"), "\x01\x78" + strings.Repeat("\U0001F600", 30) + "\x01x\x00\xe8\xd4\xa5\x10\x00"},
		{as(api.MaxLabels, 0, "\n"), "\x08\x01a\x01\n\x01b\x01\n\x01c\x01\n\x01d\x01\n\x01e\x01\n\x01f\x01\n\x01g\x01\n\x01h\x01\n\x00\xe8\xd4\xa5\x10\x00"},
		{greatest(), told(greatest())},
	} {
		if got, e := row.Put(c.r); e != api.OK || got != c.want {
			t.Errorf("Put(%s): %q, %d, not %q", tell(c.r), got, e, c.want)
		}
		for _, behind := range []string{"", "x", "\x00", c.want, "\x00\x00\x00\x00\x00\x00\x00\x00", "\xff\xff"} {
			if got, rest, e := row.Get(c.want + behind); e != api.OK || !same(got, c.r) || rest != behind {
				t.Errorf("Get(%q and %q): %s, %q, %d", c.want, behind, tell(got), rest, e)
			}
		}
	}
}

// P1301
func TestPutRefuses(t *testing.T) {
	for _, r := range wrongRows() {
		if got, e := row.Put(r); e != api.ErrArg || got != "" {
			t.Errorf("Put(%s): %q, %d", tell(r), got, e)
		}
	}
}

// P1301: what Put refuses is not read either, however it is written.
func TestGetRefusesWhatPutRefuses(t *testing.T) {
	for _, r := range wrongRows() {
		if !writable(r) {
			continue
		}
		for _, behind := range []string{"", "x", told(rowOf(1))} {
			refuse(t, told(r)+behind)
		}
	}
}

// writable tells whether the bytes that a row would have tell all of it, also
// if it may not be.
func writable(r api.Row) bool {
	for _, x := range r.Labels {
		if len(x.Name) > 255 || len(x.Value) > 255 {
			return false
		}
	}
	return -most <= r.V && r.V < 1<<48-most
}

// refuse asks Get of bytes that begin with no row.
func refuse(t *testing.T, b string) {
	t.Helper()
	if got, rest, e := row.Get(b); e != api.ErrForm || rest != "" || got.Labels != nil || got.V != 0 {
		t.Errorf("Get(%q): %s, %q, %d", b, tell(got), rest, e)
	}
}

// P1301
func TestGetRefuses(t *testing.T) {
	zero := "\x00\xe8\xd4\xa5\x10\x00"
	for _, b := range []string{
		"", "\x00", "x", zero, "\xff", strings.Repeat("\xff", 600),
		"\x00\x01\xd1\xa9\x4a\x20\x01", "\x00\x01\xd1\xa9\x4a\x21\x00", "\x00\x02\x00\x00\x00\x00\x00", "\x00\x80\x00\x00\x00\x00\x00", "\x00\xff\xff\xff\xff\xff\xff", // numbers that are too great
		"\x01" + zero, "\x02\x01a\x01x" + zero, "\x03\x01a\x01x\x01b\x01x" + zero, // more labels than there are
		"\x01\x00\x01x" + zero, "\x01\x01a\x00" + zero, "\x01\x00\x00" + zero, // empty texts
		"\x01\x011\x01x" + zero, "\x01\x01-\x01x" + zero, "\x01\x02a\xff\x01x" + zero, "\x01\x03\xef\xbf\xbd\x01x" + zero, "\x01\x01\xc3\x01x" + zero, "\x01\x01\x00\x01x" + zero,
		"\x02\x01b\x01x\x01a\x01x" + zero, "\x02\x01a\x01x\x01a\x01x" + zero, "\x02\x01a\x01x\x01a\x01y" + zero, "\x02\x02ab\x01x\x01a\x01x" + zero,
		"\x01\x01a\x3d" + strings.Repeat("x", 61) + zero, "\x01\x1f" + strings.Repeat("a", 31) + "\x01x" + zero, "\x01\x7c" + strings.Repeat("\U0001F600", 31) + "\x01x" + zero,
		"\x01\x78" + strings.Repeat("a", 120) + "\x01x" + zero, "\x01\xff" + strings.Repeat("a", 255) + "\x01x" + zero,
		"\x01\x02a\x01x" + zero, "\x01\x01a\x02x" + zero[:5], "\x01\xffa\x01x" + zero, "\x01\x01a\xffx" + zero, // lengths of more than there is
		" " + told(rowOf(1)), told(rowOf(1, "a", "x"))[1:],
		told(as(api.MaxLabels+1, 0, "x")), told(as(26, 0, "x")), "\xff" + strings.Repeat("\x01a\x01x", 255) + zero,
	} {
		refuse(t, b)
	}
}

// P1301: each beginning that ends ahead of a row's end is refused.
func TestGetOfEachBeginning(t *testing.T) {
	for _, r := range []api.Row{rowOf(0), rowOf(-most), rowOf(most, "a", "x"), rowOf(0, "a", "\x00", "b", "\x01\x01\x01"), as(api.MaxLabels, 7, "é"), greatest()} {
		b := told(r)
		for n := range len(b) {
			refuse(t, b[:n])
		}
	}
}

// read tells by the chapter's words with which row bytes begin, and how many
// bytes that one has.
func read(b string) (api.Row, int, bool) {
	if len(b) == 0 || b[0] > api.MaxLabels {
		return api.Row{}, 0, false
	}
	at, r := 1, api.Row{}
	for range b[0] {
		var texts [2]string
		for i := range texts {
			if at >= len(b) || at+1+int(b[at]) > len(b) {
				return api.Row{}, 0, false
			}
			texts[i] = b[at+1 : at+1+int(b[at])]
			at += 1 + len(texts[i])
		}
		last := ""
		if len(r.Labels) > 0 {
			last = r.Labels[len(r.Labels)-1].Name
		}
		if !glyph.Name(texts[0]) || texts[0] <= last || texts[1] == "" || len(texts[1]) > api.MaxValue {
			return api.Row{}, 0, false
		}
		r.Labels = append(r.Labels, api.Label{Name: texts[0], Value: texts[1]})
	}
	if at+6 > len(b) {
		return api.Row{}, 0, false
	}
	v := 0.0 // exact, up to 2 to the 53
	for i := range 6 {
		v = 256*v + float64(b[at+i])
	}
	r.V = int(v) - most
	return r, at + 6, v <= 2*most
}

// hold holds Get of bytes against the chapter's words.
func hold(t *testing.T, b string) {
	t.Helper()
	want, n, ok := read(b)
	if !ok {
		refuse(t, b)
		return
	}
	got, rest, e := row.Get(b)
	if e != api.OK || !same(got, want) || rest != b[n:] {
		t.Fatalf("Get(%q): %s, %q, %d, not %s, %q", b, tell(got), rest, e, tell(want), b[n:])
	}
	if again, e := row.Put(got); e != api.OK || again+rest != b {
		t.Fatalf("Put(%s): %q, %d, not the beginning of %q", tell(got), again, e, b)
	}
}

// P1301: of each byte of some rows, turned to each other one.
func TestGetOfEachTurnedByte(t *testing.T) {
	for _, r := range []api.Row{rowOf(0), rowOf(most), rowOf(-5, "a", "x"), rowOf(5, "b", "x", "c", "yz"), rowOf(1, "é", "\xc3\x01\x01", "ü1", "\x00\x00")} {
		for _, behind := range []string{"", "\x01a\x01x\x00\x00\x00\x00\x00\x00\x00"} {
			b := []byte(told(r) + behind)
			for i, was := range b {
				for c := range 256 {
					b[i] = byte(c)
					hold(t, string(b))
				}
				b[i] = was
			}
		}
	}
}

// P1301: of all short lists of pieces.
func TestGetOfEachShortList(t *testing.T) {
	pieces := []string{"\x00", "\x01", "\x02", "a", "b", "\xff", "\x01a", "\x01b\x01x", "\x00\x00\x00\x00\x00", "\x00\xe8\xd4\xa5\x10\x00", "\x01\xd1\xa9\x4a\x20\x00"}
	all := []string{""}
	for from, round := 0, 0; round < 5; round++ {
		end := len(all)
		for _, b := range all[from:end] {
			for _, x := range pieces {
				all = append(all, b+x)
			}
		}
		from = end
	}
	for _, b := range all {
		hold(t, b)
	}
}

// chance tells a row by chance, which may be or not.
func chance(rnd *rand.Rand) api.Row {
	names := strings.Fields("a b c d e f g h i ab a1 é _ Z 日本 metric host 1a a-b")
	slices.Sort(names)
	var pairs []string
	for _, name := range names {
		if rnd.Intn(4) == 0 {
			value := make([]byte, rnd.Intn(8))
			for i := range value {
				value[i] = byte(rnd.Intn(256))
			}
			pairs = append(pairs, name, string(value))
		}
	}
	if rnd.Intn(10) == 0 && len(pairs) > 3 {
		pairs[0], pairs[2] = pairs[2], pairs[0]
	}
	return rowOf(rnd.Intn(2*most+2)-most, pairs...)
}

// mayBe tells by the chapters' words whether a row may be.
func mayBe(r api.Row) bool {
	rises := slices.IsSortedFunc(r.Labels, func(a, b api.Label) int { return strings.Compare(a.Name, b.Name) })
	for i, x := range r.Labels {
		runes := utf8.RuneCountInString(x.Name)
		if !glyph.Name(x.Name) || runes > api.MaxName || x.Value == "" || len(x.Value) > api.MaxValue || i > 0 && r.Labels[i-1].Name == x.Name {
			return false
		}
	}
	return rises && len(r.Labels) <= api.MaxLabels && -most <= r.V && r.V <= most
}

// P1301: rows made by chance, alone, and one behind the other.
func TestRowsByChance(t *testing.T) {
	rnd := rand.New(rand.NewSource(13))
	put, refused := []api.Row{}, 0
	var b strings.Builder
	for range 20000 {
		r := chance(rnd)
		got, e := row.Put(r)
		switch {
		case !mayBe(r):
			refused++
			if e != api.ErrArg || got != "" {
				t.Fatalf("Put(%s): %q, %d", tell(r), got, e)
			}
		case e != api.OK || got != told(r):
			t.Fatalf("Put(%s): %q, %d, not %q", tell(r), got, e, told(r))
		default:
			hold(t, got)
			if put = append(put, r); len(put) <= 2000 {
				b.WriteString(got)
			}
		}
	}
	if len(put) < 2000 || refused < 2000 {
		t.Fatalf("%d rows put, %d refused: too few", len(put), refused)
	}
	all := b.String()
	for _, want := range put[:2000] {
		got, rest, e := row.Get(all)
		if e != api.OK || !same(got, want) {
			t.Fatalf("Get: %s, %d, not %s", tell(got), e, tell(want))
		}
		all = rest
	}
	if all != "" {
		t.Errorf("%q is left", all)
	}
}

// P1301
func TestCost(t *testing.T) {
	for _, c := range []struct {
		r    api.Row
		want int
	}{
		{rowOf(0, "a", "x"), 26}, // the chapter's example
		{api.Row{}, 16}, {rowOf(5), 16}, {rowOf(most), 16}, {rowOf(-most), 16}, {api.Row{Labels: []api.Label{}, V: 3}, 16},
		{rowOf(most, "a", "x"), 26}, {rowOf(0, "ab", "x"), 27}, {rowOf(0, "a", "xyz"), 28},
		{rowOf(0, "a", "x", "b", "y"), 36}, {rowOf(0, "host", "a", "metric", "cpu"), 16 + 8 + 5 + 8 + 9},
		{rowOf(0, "é", "日\xff"), 16 + 8 + 2 + 4}, // bytes, not runes
		{as(api.MaxLabels, 0, strings.Repeat("x", api.MaxValue)), 16 + 8*(8+1+60)},
		{greatest(), 16 + 8*(8+120+60)},
		// Also of what Put refuses: nothing is told of that.
		{rowOf(most+1, "", ""), 24}, {rowOf(0, "b", "x", "a", "x"), 36}, {rowOf(0, "a", "x", "a", "x"), 36}, {as(20, 0, ""), 16 + 20*9}, {rowOf(0, "a", strings.Repeat("x", 1000)), 16 + 8 + 1001},
	} {
		if got := row.Cost(c.r); got != c.want {
			t.Errorf("Cost(%s): %d, not %d", tell(c.r), got, c.want)
		}
	}
}

// P1301: of rows made by chance, part by part.
func TestCostByChance(t *testing.T) {
	rnd := rand.New(rand.NewSource(14))
	for range 1000 {
		r := chance(rnd)
		want := 16
		for _, x := range r.Labels {
			want += 8 + len(x.Name+x.Value)
		}
		if got := row.Cost(r); got != want {
			t.Fatalf("Cost(%s): %d, not %d", tell(r), got, want)
		}
	}
}

// P1301
func TestSame(t *testing.T) {
	a, b := rowOf(1, "a", "x"), rowOf(2, "b", "y", "c", "z")
	for _, c := range []struct {
		a, b []api.Row
		want bool
	}{
		{nil, nil, true}, {nil, []api.Row{}, true}, {nil, []api.Row{{}}, false}, {[]api.Row{{}}, []api.Row{{}}, true},
		{[]api.Row{a}, []api.Row{rowOf(1, "a", "x")}, true}, {[]api.Row{a, b}, []api.Row{rowOf(1, "a", "x"), rowOf(2, "b", "y", "c", "z")}, true},
		{[]api.Row{{V: 3}}, []api.Row{{Labels: []api.Label{}, V: 3}}, true}, // no labels are no labels
		{[]api.Row{a}, []api.Row{b}, false}, {[]api.Row{a}, []api.Row{a, a}, false}, {[]api.Row{a, b}, []api.Row{a}, false},
		{[]api.Row{a, b}, []api.Row{b, a}, false}, {[]api.Row{a, a, b}, []api.Row{a, b, b}, false},
		{[]api.Row{a}, []api.Row{rowOf(2, "a", "x")}, false}, {[]api.Row{a}, []api.Row{rowOf(-1, "a", "x")}, false},
		{[]api.Row{a}, []api.Row{rowOf(1, "a", "y")}, false}, {[]api.Row{a}, []api.Row{rowOf(1, "b", "x")}, false}, {[]api.Row{a}, []api.Row{rowOf(1)}, false},
		{[]api.Row{b}, []api.Row{rowOf(2, "c", "z", "b", "y")}, false}, {[]api.Row{b}, []api.Row{rowOf(2, "b", "y")}, false}, {[]api.Row{b}, []api.Row{rowOf(2, "b", "y", "c", "z", "d", "z")}, false},
		{[]api.Row{rowOf(1, "a", "bc")}, []api.Row{rowOf(1, "ab", "c")}, false}, {[]api.Row{rowOf(1, "a", "\xff")}, []api.Row{rowOf(1, "a", "\uFFFD")}, false}, // bytes, not runes
		{[]api.Row{rowOf(1, "a", "x"), rowOf(1)}, []api.Row{rowOf(1), rowOf(1, "a", "x")}, false},
		{[]api.Row{rowOf(most+1, "", "")}, []api.Row{rowOf(most+1, "", "")}, true}, {[]api.Row{rowOf(math.MinInt)}, []api.Row{rowOf(math.MaxInt)}, false}, // also of what may not be
	} {
		if row.Same(c.a, c.b) != c.want || row.Same(c.b, c.a) != c.want {
			t.Errorf("Same(%s, %s): %v, %v", tell(c.a...), tell(c.b...), row.Same(c.a, c.b), row.Same(c.b, c.a))
		}
		if !row.Same(c.a, c.a) || !row.Same(c.b, c.b) {
			t.Errorf("%s or %s is not like itself", tell(c.a...), tell(c.b...))
		}
	}
}

// P1301: of as many rows as may be, and more.
func TestSameOfManyRows(t *testing.T) {
	many := func(n int) []api.Row {
		var l []api.Row
		for i := range n {
			l = append(l, rowOf(i, "a", "v"+strconv.Itoa(i)))
		}
		return l
	}
	for _, n := range []int{api.MaxRows, api.MaxRows + 1, 5 * api.MaxRows} {
		a, b := many(n), many(n)
		if !row.Same(a, b) || row.Same(a, b[:n-1]) {
			t.Errorf("of %d rows: %v, %v", n, row.Same(a, b), row.Same(a, b[:n-1]))
		}
		b[n-1].Labels[0].Value += "x"
		if row.Same(a, b) {
			t.Errorf("of %d rows: the last one is another, but they are alike", n)
		}
	}
}

// Rule 2: nothing writes into what was handed in.
func TestNothingIsWrittenInto(t *testing.T) {
	l := []api.Row{rowOf(1, "b", "x", "a", "y"), rowOf(2, "a", "x", "b", "y")}
	for _, r := range l {
		row.Put(r)
		row.Cost(r)
	}
	row.Same(l, slices.Clone(l))
	if !same(l[0], rowOf(1, "b", "x", "a", "y")) || !same(l[1], rowOf(2, "a", "x", "b", "y")) {
		t.Errorf("handed in, and now %s", tell(l...))
	}
}

// Rule 2: an answer shares no memory with what was handed in, nor with what is
// answered later.
func TestAnswersAreNewMemory(t *testing.T) {
	b := told(rowOf(1, "ab", "xy", "cd", "zz")) + "behind"
	within := func(s, whole string) bool {
		from, at := uintptr(unsafe.Pointer(unsafe.StringData(whole))), uintptr(unsafe.Pointer(unsafe.StringData(s)))
		return from <= at && at < from+uintptr(len(whole))
	}
	one, rest, _ := row.Get(b)
	two, _, _ := row.Get(b)
	if len(one.Labels) != 2 || rest != "behind" {
		t.Fatalf("Get(%q): %s, %q", b, tell(one), rest)
	}
	for _, s := range []string{rest, one.Labels[0].Name, one.Labels[0].Value, one.Labels[1].Name, one.Labels[1].Value} {
		if within(s, b) {
			t.Errorf("%q shares memory with what was handed in", s)
		}
	}
	one.Labels[0].Value = "turned"
	if two.Labels[0].Value != "xy" {
		t.Error("two answers share memory")
	}
}
