package run_test

import (
	"math"
	"math/rand"
	"slices"
	"strconv"
	"strings"
	"testing"
	"unsafe"

	"leporello/api"
	"leporello/guard"
	"leporello/row"
	"leporello/run"
)

// rowOf tells a row of a number, and of names and values in turn.
func rowOf(v int, pairs ...string) api.Row {
	var l []api.Label
	for at := 0; at+1 < len(pairs); at += 2 {
		l = append(l, api.Label{Name: pairs[at], Value: pairs[at+1]})
	}
	return api.Row{Labels: l, V: v}
}

// some tells n rows, each another one, of some of which others are beginnings.
func some(n int) []api.Row {
	var l []api.Row
	for i := range n {
		switch i % 4 {
		case 0:
			l = append(l, rowOf(i))
		case 1:
			l = append(l, rowOf(-i, "a", "v"+strconv.Itoa(i)))
		default:
			l = append(l, rowOf(i/4, "a", "v"+strconv.Itoa(i), "é", "日\xff"))
		}
	}
	return l
}

// greatest tells the row of the most bytes.
func greatest(v int) api.Row {
	r := api.Row{V: v}
	for i := range api.MaxLabels {
		r.Labels = append(r.Labels, api.Label{Name: strings.Repeat("\U00010000", api.MaxName-1) + string(rune(0x10000+i)), Value: strings.Repeat("\xff", api.MaxValue)})
	}
	return r
}

// short tells bytes as far as they can be looked at.
func short(b string) string { return strconv.Quote(b[:min(len(b), 100)]) }

// framed tells the frames of texts, one behind the other.
func framed(texts ...string) string {
	var all strings.Builder
	for _, x := range texts {
		b, e := guard.Frame(x)
		if e != api.OK {
			panic("no frame of " + short(x))
		}
		all.WriteString(b)
	}
	return all.String()
}

// head tells what the first frame holds of n rows.
func head(n int) string { return "LEP" + string([]byte{byte(n / 256), byte(n % 256)}) }

// bytesOf tells the bytes of rows, one behind the other.
func bytesOf(l ...api.Row) string {
	var all strings.Builder
	for _, r := range l {
		b, e := row.Put(r)
		if e != api.OK {
			panic("a row that may not be")
		}
		all.WriteString(b)
	}
	return all.String()
}

// texts tells by the chapter's words what the frames of a file hold.
func texts(l []api.Row) []string {
	all := []string{head(len(l))}
	for from := 0; from < len(l); from += 8 {
		all = append(all, bytesOf(l[from:min(from+8, len(l))]...))
	}
	return append(all, "END")
}

// file tells by the chapter's words the bytes of a file, also if these are
// more than may be.
func file(l []api.Row) string { return framed(texts(l)...) }

// with tells texts of which the one at a place is another.
func with(l []string, at int, text string) []string {
	l = slices.Clone(l)
	l[at] = text
	return l
}

// padded tells rows whose file has just n bytes: some, many others, and in the
// first ones as many bytes more as are missing then.
func padded(n int) []api.Row {
	l := some(48)
	block := slices.Repeat([]api.Row{rowOf(1, "a", strings.Repeat("x", api.MaxValue))}, 8)
	l = append(l, slices.Repeat(block, (n-len(file(l)))/len(framed(bytesOf(block...))))...)
	missing := n - len(file(l))
	for i := 1; missing > 0; i += 4 {
		value := &l[i].Labels[0].Value
		more := min(api.MaxValue-len(*value), missing)
		*value += strings.Repeat("y", more)
		missing -= more
	}
	return l
}

// turned tells bytes of which those bits are turned, from the place at on,
// where pattern has a 1, its highest bit first.
func turned(b string, at int, pattern uint32) string {
	l := []byte(b)
	for i := range 32 {
		if pattern>>(31-i)&1 == 1 {
			l[(at+i)/8] ^= 1 << (7 - (at+i)%8)
		}
	}
	return string(l)
}

// makes asks Make of rows that may be, and Read, Count and Page of all of what
// it makes.
func makes(t *testing.T, l []api.Row, want string) {
	t.Helper()
	b, e := run.Make(l...)
	if e != api.OK || b != want {
		t.Fatalf("Make of %d rows: %s, %d, not %s", len(l), short(b), e, short(want))
	}
	if got, e := run.Read(b); e != api.OK || !row.Same(got, l) {
		t.Fatalf("Read of %d rows: %d rows, %d", len(l), len(got), e)
	}
	if n, e := run.Count(b); e != api.OK || n != len(l) {
		t.Fatalf("Count of %d rows: %d, %d", len(l), n, e)
	}
	page(t, b, 0, len(l), l)
}

// page asks Page for rows that are there.
func page(t *testing.T, b string, from, n int, want []api.Row) {
	t.Helper()
	if got, e := run.Page(b, from, n); e != api.OK || !row.Same(got, want) {
		t.Fatalf("Page of %d bytes (%s), %d, %d: %v, %d, not %v", len(b), short(b), from, n, got, e, want)
	}
}

// noPage asks Page for rows that it does not tell.
func noPage(t *testing.T, b string, from, n int, want api.Errno) {
	t.Helper()
	if got, e := run.Page(b, from, n); e != want || len(got) != 0 {
		t.Fatalf("Page of %d bytes (%s), %d, %d: %v, %d, not %d", len(b), short(b), from, n, got, e, want)
	}
}

// unread asks Read of bytes that Make does not make.
func unread(t *testing.T, b string) {
	t.Helper()
	if got, e := run.Read(b); e != api.ErrCorrupt || len(got) != 0 {
		t.Fatalf("Read of %d bytes (%s): %d rows, %d", len(b), short(b), len(got), e)
	}
}

// uncounted asks all of bytes that begin with no right frame.
func uncounted(t *testing.T, b string) {
	t.Helper()
	unread(t, b)
	if n, e := run.Count(b); e != api.ErrCorrupt || n != 0 {
		t.Fatalf("Count of %d bytes (%s): %d, %d", len(b), short(b), n, e)
	}
	// Also with places that may not be: Count's error is ahead of theirs.
	for _, at := range []int{0, 1, -1, math.MinInt, math.MaxInt} {
		for _, n := range []int{0, 1, -1, math.MinInt, math.MaxInt} {
			noPage(t, b, at, n, api.ErrCorrupt)
		}
	}
}

// P1501
func TestMakeTellsBytes(t *testing.T) {
	zero := "\x00\x00\xe8\xd4\xa5\x10\x00"
	one, nine := "\x01\x01a\x01x\x00\xe8\xd4\xa5\x10\x01", "\x00\x00\xe8\xd4\xa5\x10\x09"
	for _, c := range []struct {
		l    []api.Row
		want string
	}{
		{nil, framed("LEP\x00\x00", "END")},
		{[]api.Row{{}}, framed("LEP\x00\x01", zero, "END")},
		{[]api.Row{rowOf(1, "a", "x"), {}, rowOf(1, "a", "x")}, framed("LEP\x00\x03", one+zero+one, "END")},
		{slices.Repeat([]api.Row{{}}, 7), framed("LEP\x00\x07", strings.Repeat(zero, 7), "END")},
		{slices.Repeat([]api.Row{{}}, 8), framed("LEP\x00\x08", strings.Repeat(zero, 8), "END")},
		{append(slices.Repeat([]api.Row{{}}, 8), rowOf(9)), framed("LEP\x00\x09", strings.Repeat(zero, 8), nine, "END")},
		{append(slices.Repeat([]api.Row{{}}, 15), rowOf(9)), framed("LEP\x00\x10", strings.Repeat(zero, 8), strings.Repeat(zero, 7)+nine, "END")},
		{slices.Repeat([]api.Row{{}}, 17), framed("LEP\x00\x11", strings.Repeat(zero, 8), strings.Repeat(zero, 8), zero, "END")},
		{slices.Repeat([]api.Row{{}}, 256), framed("LEP\x01\x00") + strings.Repeat(framed(strings.Repeat(zero, 8)), 32) + framed("END")},
		{slices.Repeat([]api.Row{{}}, 2000), framed("LEP\x07\xd0") + strings.Repeat(framed(strings.Repeat(zero, 8)), 250) + framed("END")},
		{slices.Repeat([]api.Row{greatest(api.MaxV)}, 9), framed("LEP\x00\x09", strings.Repeat(bytesOf(greatest(api.MaxV)), 8), bytesOf(greatest(api.MaxV)), "END")},
	} {
		makes(t, c.l, c.want)
	}
}

// P1501: the frames of a file byte by byte, with their lengths and sums.
func TestMakeTellsFrames(t *testing.T) {
	got, e := run.Make(rowOf(1, "a", "x"))
	want := "\x00\x05" + four(guard.Of("\x00\x05")) + "LEP\x00\x01" + four(guard.Of("LEP\x00\x01"))
	want += "\x00\x0b" + four(guard.Of("\x00\x0b")) + "\x01\x01a\x01x\x00\xe8\xd4\xa5\x10\x01" + four(guard.Of("\x01\x01a\x01x\x00\xe8\xd4\xa5\x10\x01"))
	want += "\x00\x03" + four(guard.Of("\x00\x03")) + "END" + four(guard.Of("END"))
	if e != api.OK || got != want {
		t.Errorf("Make: %q, %d, not %q", got, e, want)
	}
}

// four tells a sum in four bytes.
func four(v uint32) string {
	return string([]byte{byte(v >> 24), byte(v >> 16), byte(v >> 8), byte(v)})
}

// P1501: of each number of rows, in whatever order they stand.
func TestMakeOfEachNumber(t *testing.T) {
	if run.Block != 8 {
		t.Errorf("Block is %d", run.Block)
	}
	for n := range 100 {
		l := some(n)
		makes(t, l, file(l))
		slices.Reverse(l)
		makes(t, l, file(l))
	}
	for _, n := range []int{255, 256, 257, 511, 512, 1023, 1024, 1999, api.MaxRows} {
		l := some(n)
		makes(t, l, file(l))
	}
}

// P1501: at the most bytes that a file may have, and above it.
func TestMakeAtTheMostBytes(t *testing.T) {
	for _, n := range []int{api.MaxFile - 2, api.MaxFile - 1, api.MaxFile} {
		l := padded(n)
		if b := file(l); len(b) != n {
			t.Fatalf("%d bytes, not %d", len(b), n)
		}
		makes(t, l, file(l))
	}
	if b := file(padded(api.MaxFile + 1)); len(b) != api.MaxFile+1 {
		t.Fatalf("%d bytes, not one more than may be", len(b))
	}
	over := [][]api.Row{padded(api.MaxFile + 1), padded(api.MaxFile + 2), padded(api.MaxFile + 3000), slices.Repeat([]api.Row{greatest(0)}, 41), slices.Repeat([]api.Row{greatest(0)}, api.MaxRows)}
	for _, l := range over {
		if got, e := run.Make(l...); e != api.ErrFull || got != "" {
			t.Errorf("Make of %d rows, %d bytes: %s, %d", len(l), len(file(l)), short(got), e)
		}
		// Make does not make it, so Read does not read it; but its pages are
		// right.
		unread(t, file(l))
		if n, e := run.Count(file(l)); e != api.OK || n != len(l) {
			t.Errorf("Count of %d rows: %d, %d", len(l), n, e)
		}
		page(t, file(l), 0, len(l), l)
		page(t, file(l), len(l)-1, 1, l[len(l)-1:])
	}
	most := slices.Repeat([]api.Row{greatest(-api.MaxV)}, 40)
	makes(t, most, file(most))
}

// wrongRows are rows that row.Put refuses.
func wrongRows() []api.Row {
	many := api.Row{}
	for i := range api.MaxLabels + 1 {
		many.Labels = append(many.Labels, api.Label{Name: string(rune('a' + i)), Value: "x"})
	}
	return []api.Row{
		rowOf(api.MaxV + 1), rowOf(-api.MaxV - 1), rowOf(math.MaxInt), rowOf(math.MinInt),
		rowOf(1, "b", "x", "a", "x"), rowOf(1, "a", "x", "a", "x"), rowOf(1, "", "x"), rowOf(1, "1", "x"), rowOf(1, "a\xff", "x"),
		rowOf(1, "a", ""), rowOf(1, "a", strings.Repeat("x", api.MaxValue+1)), rowOf(1, strings.Repeat("a", api.MaxName+1), "x"), many,
	}
}

// P1501: a row that may not be, at each place; also where there would be no
// room.
func TestMakeRefuses(t *testing.T) {
	refuse := func(l []api.Row, what string) {
		t.Helper()
		if got, e := run.Make(l...); e != api.ErrArg || got != "" {
			t.Errorf("Make of %s: %s, %d", what, short(got), e)
		}
	}
	full := padded(api.MaxFile + 1)
	for i, r := range wrongRows() {
		what := "wrong row " + strconv.Itoa(i)
		refuse([]api.Row{r}, what)
		for at := range 20 {
			refuse(slices.Insert(some(19), at, r), what+" at "+strconv.Itoa(at))
		}
		refuse(append(slices.Clone(full), r), what+" behind too many bytes")
		refuse(slices.Insert(slices.Clone(full), 0, r), what+" ahead of too many bytes")
		refuse(append(slices.Repeat([]api.Row{greatest(0)}, api.MaxRows-1), r), what+" as the last one of all")
		refuse(append(some(api.MaxRows), r), what+" as one too many")
	}
	refuse(some(api.MaxRows+1), "one too many")
	refuse(some(3*api.MaxRows), "very many")
	refuse(slices.Repeat([]api.Row{greatest(0)}, api.MaxRows+1), "one too many, of the most bytes")
}

// P1501: files that are not just what Make makes, each frame of which is right.
func TestReadRefusesFrames(t *testing.T) {
	l := some(20)
	whole := texts(l)
	first, second, third := whole[1], whole[2], whole[3]
	for _, c := range [][]string{
		{}, {""}, {"END"}, {head(0)}, {head(0), ""}, {head(0), "", "END"}, {head(0), "END", ""}, {head(0), "END", "END"}, {head(0), head(0), "END"}, {"END", head(0)},
		{head(0), "END", head(0), "END"}, {head(0), "end"}, {head(0), "EN"}, {head(0), "END\x00"}, {head(0), "ENDEND"}, {head(0), bytesOf(l[0]), "END"}, {head(1), "END"}, {head(1), "", "END"},
		{head(1), bytesOf(l[0])}, {head(1), bytesOf(l[0]), bytesOf(l[0]), "END"}, {head(1), bytesOf(l[:2]...), "END"}, {head(2), bytesOf(l[0]), "END"}, {head(2), bytesOf(l[0]), bytesOf(l[1]), "END"},
		{head(1), bytesOf(l[0]) + "\x00", "END"}, {head(1), bytesOf(l[0]) + "END", "END"}, {head(1), bytesOf(l[0]) + "END"}, {head(1), head(1), bytesOf(l[0]), "END"}, {head(1), bytesOf(l[0]), head(1), "END"}, {head(1), bytesOf(l[0])[:6], "END"}, {head(1), "\x01" + bytesOf(l[0]), "END"},
		{bytesOf(l[0]), "END"}, {head(1) + bytesOf(l[0]), "END"}, {head(1) + bytesOf(l[0]) + "END"}, {bytesOf(l[0]), head(1), "END"},
		whole[1:], whole[:4], {whole[0], second, third, "END"}, {whole[0], first, third, "END"}, {whole[0], first, second, "END"}, {whole[0], first, third, second, "END"}, {whole[0], third, first, second, "END"},
		{whole[0], first + second, third, "END"}, {whole[0], first, second + third, "END"}, {whole[0], first + second + third, "END"}, {whole[0], first, second, third + "END"},
		{whole[0], first, second, "", third, "END"}, {whole[0], "", first, second, third, "END"}, {whole[0], first, second, third, "", "END"}, {whole[0], first, "END", second, third, "END"},
		{whole[0], bytesOf(l[:4]...), bytesOf(l[4:12]...), bytesOf(l[12:]...), "END"}, {whole[0], bytesOf(l[:9]...), bytesOf(l[9:17]...), bytesOf(l[17:]...), "END"}, {whole[0], bytesOf(l[:7]...), bytesOf(l[7:15]...), bytesOf(l[15:]...), "END"}, {whole[0], bytesOf(l[:10]...), bytesOf(l[10:]...), "END"},
		with(whole, 0, head(19)), with(whole, 0, head(21)), with(whole, 0, head(16)), with(whole, 0, head(24)), with(whole, 0, head(0)), with(whole, 0, head(20+256)), with(whole, 0, head(api.MaxRows)),
		with(whole, 3, bytesOf(l[16:19]...)), with(whole, 3, third+bytesOf(l[0])), with(whole, 2, second[1:]), with(whole, 2, second[:len(second)-1]), with(whole, 2, second+"\x00"),
		{head(8), first, "", "END"}, {head(8), first}, {head(16), first, second, "", "END"}, {head(9), first + bytesOf(l[8]), "END"},
	} {
		unread(t, framed(c...))
	}
	if got, e := run.Read(framed(whole...)); e != api.OK || !row.Same(got, l) {
		t.Errorf("Read: %d rows, %d", len(got), e)
	}
}

// P1501, P1502: files whose first frame is not right, or has too many rows.
func TestHeadsThatMayNotBe(t *testing.T) {
	behind := framed(bytesOf(some(1)...), "END")
	for _, first := range []string{
		"", "LEP", "LEP\x00", "LEP\x00\x01\x00", "LEP\x01", "LEP\x00\x00\x01", "lep\x00\x01", "LEO\x00\x01", "LE\x00\x01", "\x00\x01", "\x00\x01LEP", "XLEP\x00\x01", "EPL\x00\x01", "END", "END\x00\x01", " LEP\x00\x01", "LEP\x00\x01 ",
		bytesOf(some(1)...), head(1) + bytesOf(some(1)...), head(api.MaxRows + 1), head(api.MaxRows + 2), head(2048), head(4096 + 1), head(1 << 15), head(1<<15 + 1), head(1<<16 - 1), strings.Repeat("\x00", 12000), strings.Repeat("L", 12000),
	} {
		uncounted(t, framed(first))
		uncounted(t, framed(first)+behind)
		uncounted(t, framed(first, head(1))+behind)
	}
	right := framed(head(1))
	for _, b := range []string{"", "LEP\x00\x01", "x" + right, right[1:], "\x00" + right, right[:len(right)-1], strings.Repeat("\x00", 100), strings.Repeat("\xff", 100)} {
		uncounted(t, b)
		if len(b) > 14 {
			uncounted(t, b+behind)
		}
	}
	for n := range right {
		uncounted(t, right[:n])
	}
	tooMany := some(api.MaxRows + 1)
	uncounted(t, file(tooMany))
}

// P1502: whatever stands behind the first frame, or nothing.
func TestCountLooksAtTheFirstFrame(t *testing.T) {
	for _, n := range []int{0, 1, 2, 7, 8, 9, 255, 256, 257, 512, 1999, api.MaxRows} {
		for _, behind := range []string{"", "x", "\x00", framed(""), framed("END"), framed(head(3)), framed("junk"), strings.Repeat("\xff", 70000), framed(bytesOf(some(3)...))} {
			if got, e := run.Count(framed(head(n)) + behind); e != api.OK || got != n {
				t.Errorf("Count of %d rows and %s: %d, %d", n, short(behind), got, e)
			}
			noPage(t, framed(head(n))+behind, n+1, 0, api.ErrArg)
			page(t, framed(head(n))+behind, n, 5, nil)
			page(t, framed(head(n))+behind, 0, 0, nil)
		}
	}
}

// P1502
func TestPageOfTheExample(t *testing.T) {
	l := some(10)
	b, _ := run.Make(l...)
	page(t, b, 7, 2, l[7:9])
}

// P1502: each page of files of each number of rows, and places that may not be.
func TestEachPage(t *testing.T) {
	for all := range 35 {
		l := some(all)
		b := file(l)
		for from := range all + 1 {
			for n := range all + 3 {
				page(t, b, from, n, l[from:min(from+n, all)])
			}
			for _, n := range []int{100, 1 << 20, math.MaxInt - from, math.MaxInt - 1, math.MaxInt} {
				page(t, b, from, n, l[from:])
			}
			for _, n := range []int{-1, -2, -8, math.MinInt, math.MinInt + 1} {
				noPage(t, b, from, n, api.ErrArg)
			}
		}
		for _, from := range []int{-1, -8, all + 1, all + 8, math.MinInt, math.MaxInt} {
			for _, n := range []int{0, 1, 8, -1, math.MaxInt, math.MinInt} {
				noPage(t, b, from, n, api.ErrArg)
			}
		}
	}
}

// P1502: pages one behind the other are all rows, whatever their size.
func TestPagesAreAllRows(t *testing.T) {
	for _, all := range []int{0, 1, 99, 100, 101, 1000, api.MaxRows} {
		l := some(all)
		b, _ := run.Make(l...)
		for _, size := range []int{1, 7, 8, 9, 10, 64, 99, api.MaxPage, api.MaxRows} {
			if size == 1 && all > 100 {
				continue
			}
			var got []api.Row
			for from := 0; from < all; from += size {
				p, e := run.Page(b, from, size)
				if e != api.OK {
					t.Fatalf("Page of %d rows, %d, %d: %d", all, from, size, e)
				}
				got = append(got, p...)
			}
			if !row.Same(got, l) {
				t.Errorf("pages of %d of %d rows: %d rows", size, all, len(got))
			}
		}
	}
}

// read tells by the chapter's words what Read tells: a file is what Make makes
// of the rows that all frames but the first and the last one hold, or none.
func read(b string) ([]api.Row, api.Errno) {
	frames, n := guard.All(b)
	if n != len(b) || len(b) > api.MaxFile || len(frames) < 2 {
		return nil, api.ErrCorrupt
	}
	left := strings.Join(frames[1:len(frames)-1], "")
	var l []api.Row
	for left != "" {
		r, behind, e := row.Get(left)
		if e != api.OK {
			return nil, api.ErrCorrupt
		}
		l, left = append(l, r), behind
	}
	if len(l) > api.MaxRows || file(l) != b {
		return nil, api.ErrCorrupt
	}
	return l, api.OK
}

// pageOf tells by the chapter's words what Page tells.
func pageOf(b string, from, n int) ([]api.Row, api.Errno) {
	frames, _ := guard.All(b)
	if len(frames) == 0 || len(frames[0]) != 5 || frames[0][:3] != "LEP" {
		return nil, api.ErrCorrupt
	}
	all := 256*int(frames[0][3]) + int(frames[0][4])
	if all > api.MaxRows {
		return nil, api.ErrCorrupt
	}
	if from < 0 || from > all || n < 0 {
		return nil, api.ErrArg
	}
	var l []api.Row
	for at := from; at < all && len(l) < n; at++ {
		place := 1 + at/8
		if place >= len(frames) {
			return nil, api.ErrCorrupt
		}
		inBlock, e := blockOf(frames[place], min(8, all-at/8*8))
		if e != api.OK {
			return nil, e
		}
		l = append(l, inBlock[at%8])
	}
	return l, api.OK
}

// blockOf tells by the chapter's words the n rows of a block.
func blockOf(text string, n int) ([]api.Row, api.Errno) {
	var l []api.Row
	for range n {
		r, behind, e := row.Get(text)
		if e != api.OK {
			return nil, api.ErrCorrupt
		}
		l, text = append(l, r), behind
	}
	if text != "" {
		return nil, api.ErrCorrupt
	}
	return l, api.OK
}

// hold holds all calls, of bytes, against the chapter's words.
func hold(t *testing.T, b string, pages ...[2]int) {
	t.Helper()
	if want, e := read(b); e == api.OK {
		if got, e := run.Read(b); e != api.OK || !row.Same(got, want) {
			t.Fatalf("Read(%s): %v, %d, not %v", short(b), got, e, want)
		}
	} else {
		unread(t, b)
	}
	if _, e := pageOf(b, 0, 0); e != api.OK {
		uncounted(t, b)
		return
	}
	frames, _ := guard.All(b)
	all := 256*int(frames[0][3]) + int(frames[0][4])
	if n, e := run.Count(b); e != api.OK || n != all {
		t.Fatalf("Count(%s): %d, %d, not %d", short(b), n, e, all)
	}
	for _, p := range pages {
		if want, e := pageOf(b, p[0], p[1]); e == api.OK {
			page(t, b, p[0], p[1], want)
		} else {
			noPage(t, b, p[0], p[1], e)
		}
	}
}

// allPages tells each place and each number of rows of a file, and some that
// may not be.
func allPages(all int) [][2]int {
	var l [][2]int
	for from := -1; from <= all+1; from++ {
		for n := -1; n <= all+1; n++ {
			l = append(l, [2]int{from, n})
		}
		l = append(l, [2]int{from, math.MaxInt})
	}
	return l
}

// P1501, P1502: each beginning of a file; and each file with more behind.
func TestEachBeginning(t *testing.T) {
	for _, all := range []int{0, 1, 3, 8, 9, 17, 20} {
		l := some(all)
		b := file(l)
		pages := allPages(all)
		for n := range b {
			unread(t, b[:n])
			if n%7 == 0 {
				hold(t, b[:n], pages...)
			}
		}
		for _, behind := range []string{"\x00", "x", framed("END"), framed(""), b, framed(bytesOf(some(1)...))} {
			unread(t, b+behind)
			hold(t, b+behind, pages...)
		}
	}
}

// P1502: what stands behind the blocks of a page is not looked at; of those
// ahead of it just the frames are.
func TestPageOfBrokenBlocks(t *testing.T) {
	l := some(29)
	whole := texts(l)
	var pages [][2]int
	for _, from := range []int{-1, 0, 1, 7, 8, 15, 16, 20, 23, 24, 28, 29, 30} {
		for _, n := range []int{-1, 0, 1, 2, 8, 9, 17, math.MaxInt} {
			pages = append(pages, [2]int{from, n})
		}
	}
	for at := range whole {
		broken := framed(whole[:at]...) + turned(framed(whole[at]), 3, 1<<31|1) + framed(whole[at+1:]...)
		hold(t, broken, pages...)
		missing := framed(slices.Delete(slices.Clone(whole), at, at+1)...)
		hold(t, missing, pages...)
		for _, text := range []string{"", "x", "END", head(29), bytesOf(l[0]), bytesOf(l[:7]...), bytesOf(l[:8]...), bytesOf(l[:9]...), bytesOf(l[:5]...), bytesOf(l[:5]...) + "\x00", strings.Repeat("\x00", 12000), "\x01"} {
			hold(t, framed(with(whole, at, text)...), pages...)
		}
	}
	// The last block of some rows is not the last one of more.
	for n := range 60 {
		hold(t, framed(with(whole, 0, head(n))...), pages...)
	}
}

// P1502: what that means, in words: rows of the third of four blocks.
func TestPageLooksAtItsBlocks(t *testing.T) {
	l := some(29)
	whole := texts(l)
	right := framed(whole[3])
	wrong := turned(right, 60, 1)
	ahead := framed(whole[0]) + framed("junk", "END")
	for _, b := range []string{ahead + right, ahead + right + "junk", ahead + right + wrong, ahead + right + framed("junk")} {
		page(t, b, 16, 8, l[16:24])
		page(t, b, 23, 1, l[23:24])
		page(t, b, 18, 3, l[18:21])
		page(t, b, 18, 0, nil)
		page(t, b, 29, 7, nil)
		noPage(t, b, 16, 9, api.ErrCorrupt)
		noPage(t, b, 15, 1, api.ErrCorrupt)
		noPage(t, b, 15, 2, api.ErrCorrupt)
		noPage(t, b, 0, 29, api.ErrCorrupt)
		noPage(t, b, 30, 1, api.ErrArg)
		noPage(t, b, 16, -1, api.ErrArg)
	}
	for _, b := range []string{ahead, ahead + wrong, ahead + right[:len(right)-1], framed(whole[0], "junk") + right, framed(whole[0]) + turned(framed("junk"), 0, 1<<31) + framed("END") + right, framed(whole[0], "junk") + turned(framed("END"), 60, 1) + right} {
		noPage(t, b, 16, 8, api.ErrCorrupt)
		noPage(t, b, 16, 1, api.ErrCorrupt)
		noPage(t, b, 23, 100, api.ErrCorrupt)
		page(t, b, 16, 0, nil)
		page(t, b, 29, 1, nil)
		noPage(t, b, 30, 0, api.ErrArg)
	}
}

// P1502: frames ahead of a page hold as many bytes as they may, and behind it
// stand very many.
func TestPageAmongManyBytes(t *testing.T) {
	l := some(api.MaxRows)
	behind := strings.Repeat("\xff", 1<<24)
	b := framed(head(api.MaxRows)) + strings.Repeat(framed(strings.Repeat("x", 12000)), 249) + framed(bytesOf(l[1992:]...)) + behind
	page(t, b, 1992, 8, l[1992:])
	page(t, b, 1995, 1, l[1995:1996])
	noPage(t, b, 1991, 1, api.ErrCorrupt)
	page(t, file(l)+behind, 0, api.MaxRows, l)
	unread(t, file(l)+behind)
	if n, e := run.Count(b); e != api.OK || n != api.MaxRows {
		t.Errorf("Count: %d, %d", n, e)
	}
}

// P1501, P1502, W5: bits that are turned among 32 of a file: Read tells it;
// each page is the right one, or that is told.
func TestTurnedBitsAreTold(t *testing.T) {
	rnd := rand.New(rand.NewSource(15))
	for _, all := range []int{0, 1, 9, 20} {
		l := some(all)
		b := file(l)
		for at := range 8*len(b) - 31 {
			for _, p := range []uint32{1 << 31, 1<<32 - 1, 1<<31 | 1, rnd.Uint32() | 1} {
				x := turned(b, at, p)
				unread(t, x)
				from, n := rnd.Intn(all+1), rnd.Intn(all+1)
				if got, e := run.Page(x, from, n); e == api.OK && !row.Same(got, l[from:min(from+n, all)]) || e != api.OK && e != api.ErrCorrupt {
					t.Fatalf("Page(%q, %d, %d): %v, %d", x, from, n, got, e)
				}
			}
		}
	}
}

// P1501, P1502: each byte of a file turned to each other one, and its sums made
// right again.
func TestEachTurnedByteBehindRightSums(t *testing.T) {
	l := some(10)
	whole := texts(l)
	pages := [][2]int{{0, 8}, {8, 2}, {7, 2}, {9, 9}, {10, 1}, {11, 0}}
	for at, text := range whole {
		b := []byte(text)
		for i, was := range b {
			for c := range 256 {
				b[i] = byte(c)
				hold(t, framed(with(whole, at, string(b))...), pages...)
			}
			b[i] = was
		}
	}
}

// P1501, P1502: frames by chance, one behind the other.
func TestFramesByChance(t *testing.T) {
	rnd := rand.New(rand.NewSource(16))
	pages := allPages(18)
	files := 0
	for range 6000 {
		l := some(rnd.Intn(19))
		all := texts(l)
		for range rnd.Intn(3) {
			at := rnd.Intn(len(all))
			switch rnd.Intn(6) {
			case 0:
				all = slices.Delete(slices.Clone(all), at, at+1)
			case 1:
				all = slices.Insert(slices.Clone(all), at, all[rnd.Intn(len(all))])
			case 2:
				other := rnd.Intn(len(all))
				all[at], all[other] = all[other], all[at]
			case 3:
				all[at] = bytesOf(some(rnd.Intn(11))...)
			case 4:
				all[at] = all[at][:rnd.Intn(len(all[at])+1)]
			case 5:
				all[0] = head(rnd.Intn(20))
			}
			if len(all) == 0 {
				break
			}
		}
		b := framed(all...)
		if _, e := read(b); e == api.OK {
			files++
		}
		hold(t, b, pages[rnd.Intn(len(pages))], pages[rnd.Intn(len(pages))], pages[rnd.Intn(len(pages))])
	}
	if files < 1000 || files > 5000 {
		t.Errorf("%d files of 6000: too few, or too many", files)
	}
}

// Rule 2: nothing writes into what was handed in.
func TestNothingIsWrittenInto(t *testing.T) {
	l := slices.Concat(some(20), wrongRows())
	was := slices.Concat(some(20), wrongRows())
	run.Make(l...)
	run.Make(l[:20]...)
	if !row.Same(l, was) {
		t.Error("rows that were handed in are others now")
	}
}

// Rule 2: an answer shares no memory with what was handed in, nor with what is
// answered later.
func TestAnswersAreNewMemory(t *testing.T) {
	l := slices.Repeat([]api.Row{rowOf(1, "ab", "xy", "cd", "zz")}, 10)
	b := file(l)
	from := uintptr(unsafe.Pointer(unsafe.StringData(b)))
	calls := []func() ([]api.Row, api.Errno){
		func() ([]api.Row, api.Errno) { return run.Read(b) },
		func() ([]api.Row, api.Errno) { return run.Page(b, 0, 10) },
		func() ([]api.Row, api.Errno) { return run.Page(b, 1, 3) },
	}
	for i, call := range calls {
		one, _ := call()
		two, _ := call()
		for _, r := range one {
			for _, x := range r.Labels {
				for _, s := range []string{x.Name, x.Value} {
					if at := uintptr(unsafe.Pointer(unsafe.StringData(s))); from <= at && at < from+uintptr(len(b)) {
						t.Errorf("call %d: %q shares memory with what was handed in", i, s)
					}
				}
			}
		}
		one[0].Labels[0].Value, one[0].V = "turned", 5
		if !row.Same(two, l[:len(two)]) || !row.Same(one[1:], l[1:len(one)]) {
			t.Errorf("call %d: rows share memory with others", i)
		}
	}
}
