package guard_test

import (
	"hash/crc32"
	"math/bits"
	"math/rand"
	"slices"
	"strings"
	"testing"
	"unsafe"

	"leporello/api"
	"leporello/guard"
)

// most is how many bytes may be within a frame.
const most = 12000

// bitsOf tells the bits of bytes, the highest one of each byte first.
func bitsOf(b string) []byte {
	var l []byte
	for i := range len(b) {
		for k := 7; k >= 0; k-- {
			l = append(l, b[i]>>k&1)
		}
	}
	return l
}

// sumOf tells by the chapter's words the sum of bytes, bit by bit.
func sumOf(b string) uint32 {
	from := bitsOf("\xf4\xac\xfb\x13")
	sum := bitsOf("\xff\xff\xff\xff")
	for _, x := range bitsOf(b) {
		out := sum[0] != x
		sum = append(sum[1:], 0)
		for i := range sum {
			if out && from[i] == 1 {
				sum[i] = 1 - sum[i]
			}
		}
	}
	v := uint32(0)
	for _, x := range sum {
		v = 2*v + uint32(x)
	}
	return v
}

// four tells a sum in four bytes.
func four(v uint32) string {
	return string([]byte{byte(v >> 24), byte(v >> 16), byte(v >> 8), byte(v)})
}

// head tells the first six bytes of a frame of n bytes, also if so many may
// not be.
func head(n int) string {
	size := string([]byte{byte(n / 256), byte(n % 256)})
	return size + four(sumOf(size))
}

// framed tells by the chapter's words a frame of bytes, also if so many may
// not be.
func framed(b string) string { return head(len(b)) + b + four(sumOf(b)) }

// chance tells n bytes by chance.
func chance(rnd *rand.Rand, n int) string {
	b := make([]byte, n)
	for i := range b {
		b[i] = byte(rnd.Intn(256))
	}
	return string(b)
}

// short tells bytes as far as they can be looked at.
func short(b string) string { return b[:min(len(b), 60)] }

// turned tells bytes of which those bits are turned, from the place at on,
// where pattern has a 1, its highest bit first.
func turned(b string, at int, pattern uint32) string {
	l := []byte(b)
	for i := range 32 {
		if pattern>>(31-i)&1 == 1 {
			l[(at+i)/8] ^= 1 << (7 - (at+i)%8)
		}
	}
	return string(l)
}

// take asks Take of bytes that begin with a frame.
func take(t *testing.T, b, within, behind string) {
	t.Helper()
	if got, rest, e := guard.Take(b); e != api.OK || got != within || rest != behind {
		t.Errorf("Take of %d bytes (%q): %q, %q, %d, not %q, %q", len(b), short(b), short(got), short(rest), e, short(within), short(behind))
	}
}

// refuse asks Take and All of bytes that begin with no frame.
func refuse(t *testing.T, b string, want api.Errno) {
	t.Helper()
	if got, rest, e := guard.Take(b); e != want || got != "" || rest != "" {
		t.Errorf("Take of %d bytes (%q): %q, %q, %d, not %d", len(b), short(b), short(got), short(rest), e, want)
	}
	if l, n := guard.All(b); len(l) != 0 || n != 0 {
		t.Errorf("All of %d bytes (%q): %d frames, %d bytes", len(b), short(b), len(l), n)
	}
}

// P1401
func TestOfTellsSums(t *testing.T) {
	for _, c := range []struct {
		b    string
		want uint32
	}{
		{"", 0xFFFFFFFF},                 // as it was begun with
		{"\xff\xff\xff\xff", 0x00000000}, // each bit goes out as 0
		{"\xff\xff\xff\xff\x00\x00\x00", 0x00000000},
		{"\xff\xff\xff\xff\x00\x00\x00\x01", 0xF4ACFB13}, // the last bit goes out as 1
		{"\xff\xff\xff\xff\x00\x00\x00\x02", 0x1DF50D35}, // the one ahead of it
		{"\xff", 0xFFFFFF00},
		{"\x7f", 0xFFFFFF00 ^ sumOf("\xff\xff\xff\xff\x80")},
	} {
		if got := guard.Of(c.b); got != c.want {
			t.Errorf("Of(%q): %08X, not %08X", c.b, got, c.want)
		}
	}
}

// P1401: of all texts of up to two bytes, and of others by chance, bit by bit.
func TestOfByWords(t *testing.T) {
	all := []string{"", "abc", "é日\xff\U0001F600", strings.Repeat("\x00", 50), strings.Repeat("\xff", 50)}
	for a := range 256 {
		all = append(all, string([]byte{byte(a)}))
		for b := range 256 {
			all = append(all, string([]byte{byte(a), byte(b)}))
		}
	}
	rnd := rand.New(rand.NewSource(14))
	for range 2000 {
		all = append(all, chance(rnd, rnd.Intn(60)))
	}
	all = append(all, chance(rnd, most), chance(rnd, most+1), chance(rnd, 70000))
	for _, b := range all {
		if got, want := guard.Of(b), sumOf(b); got != want {
			t.Fatalf("Of(%q): %08X, not %08X", short(b), got, want)
		}
	}
}

// P1401: of more bytes than a frame has, held against the library's sum, which
// has its bits the other way round, and turned.
func TestOfIsTheLibrarysSum(t *testing.T) {
	table := crc32.MakeTable(bits.Reverse32(0xF4ACFB13))
	rnd := rand.New(rand.NewSource(15))
	for _, b := range []string{"", "a", "123456789", chance(rnd, 1000), chance(rnd, 1<<20)} {
		round := []byte(b)
		for i, c := range round {
			round[i] = bits.Reverse8(c)
		}
		if got, want := guard.Of(b), bits.Reverse32(^crc32.Checksum(round, table)); got != want {
			t.Errorf("Of(%q): %08X, not %08X", short(b), got, want)
		}
	}
}

// P1401
func TestFrameTellsBytes(t *testing.T) {
	if got, e := guard.Frame(""); e != api.OK || len(got) != 10 || got[:2] != "\x00\x00" || got[6:] != "\xff\xff\xff\xff" {
		t.Errorf("Frame of nothing: %q, %d", got, e)
	}
	if got, e := guard.Frame("a"); e != api.OK || len(got) != 11 || got[:2] != "\x00\x01" || got[6:7] != "a" {
		t.Errorf("Frame(a): %q, %d", got, e)
	}
	rnd := rand.New(rand.NewSource(16))
	all := []string{"", "a", "x", "\x00", "\xff", "é\xc3", framed(""), framed("a"), strings.Repeat("\x00", most), strings.Repeat("\xff", most)}
	for _, n := range []int{2, 9, 10, 11, 127, 128, 255, 256, 257, 511, 512, 4095, 4096, most - 1, most} {
		all = append(all, chance(rnd, n))
	}
	for _, b := range all {
		got, e := guard.Frame(b)
		if want := framed(b); e != api.OK || got != want {
			t.Errorf("Frame of %d bytes (%q): %q, %d, not %q", len(b), short(b), short(got), e, short(want))
		}
		for _, behind := range []string{"", "x", "\x00", "\xff\xff\xff\xff\xff\xff", got, chance(rnd, 20)} {
			take(t, got+behind, b, behind)
		}
	}
}

// P1401
func TestFrameRefuses(t *testing.T) {
	for _, n := range []int{most + 1, most + 2, 1<<16 - 1, 1 << 16, 1<<16 + 1, 1<<16 + most, 1 << 20} {
		if got, e := guard.Frame(strings.Repeat("a", n)); e != api.ErrArg || got != "" {
			t.Errorf("Frame of %d bytes: %q, %d", n, short(got), e)
		}
	}
}

// P1401
func TestTakeOfTheExample(t *testing.T) {
	b, _ := guard.Frame("a")
	take(t, b+"x", "a", "x")
}

// P1401: fewer than six bytes have no form, whichever they are.
func TestTakeOfFewBytes(t *testing.T) {
	for _, b := range []string{"", "\x00", "a", "\xff\xff", "abc", "\x00\x00\x00\x00\x00", "\xff\xff\xff\xff\xff", "abcde", head(0)[:5], head(0)[1:]} {
		refuse(t, b, api.ErrForm)
	}
}

// P1401: each beginning of a frame that is not all of it has no form.
func TestTakeOfEachBeginning(t *testing.T) {
	for _, within := range []string{"", "a", "\x00\x00\x00\x00", framed("a"), strings.Repeat("x", 300)} {
		b := framed(within)
		for n := range len(b) {
			refuse(t, b[:n], api.ErrForm)
		}
	}
	b := framed(strings.Repeat("x", most))
	for _, n := range []int{6, 7, 4096, most + 5, most + 6, most + 9} {
		refuse(t, b[:n], api.ErrForm)
	}
}

// P1401: which error counts first, where several fit.
func TestTakeRefuses(t *testing.T) {
	wrong := func(b string, at int) string { return turned(b, 8*at, 1<<31) }
	for _, c := range []struct {
		b    string
		want api.Errno
	}{
		{"abcdef", api.ErrCorrupt}, {strings.Repeat("\x00", 10), api.ErrCorrupt}, {strings.Repeat("\xff", 10), api.ErrCorrupt}, {"x" + framed("a"), api.ErrCorrupt}, {framed("a")[1:], api.ErrCorrupt},
		{"\x00\x00" + four(sumOf("\x00\x01")) + "\xff\xff\xff\xff", api.ErrCorrupt},                                       // the sum of another length
		{"\x00\x01" + four(sumOf("a")) + "a" + four(sumOf("a")), api.ErrCorrupt},                                          // the sum of what is within
		{"\x01\x00" + four(bits.ReverseBytes32(sumOf("\x01\x00"))), api.ErrCorrupt},                                       // the lowest byte first
		{wrong(head(1), 2), api.ErrCorrupt}, {wrong(head(1), 0), api.ErrCorrupt}, {wrong(framed("a"), 5), api.ErrCorrupt}, // whatever is missing behind
		{head(0), api.ErrForm}, {head(1) + "a", api.ErrForm}, {head(1) + "a\xff\xff\xff", api.ErrForm}, // a sum that is not right yet
		{head(1) + "a" + four(sumOf("b")), api.ErrCorrupt}, {head(1) + "b" + four(sumOf("a")), api.ErrCorrupt}, {head(1) + "a" + four(^sumOf("a")), api.ErrCorrupt},
		{head(1) + "a" + four(bits.ReverseBytes32(sumOf("a"))), api.ErrCorrupt}, {head(0) + "\x00\x00\x00\x00", api.ErrCorrupt},
		{head(2) + "a" + four(sumOf("a")), api.ErrForm}, {head(2) + "a" + four(sumOf("a")) + "x", api.ErrCorrupt}, {head(0) + "a" + four(sumOf("a")), api.ErrCorrupt}, // another length
		{wrong(framed("a"), 6), api.ErrCorrupt}, {wrong(framed("a"), 7), api.ErrCorrupt}, {wrong(framed("a")+framed("b"), 10), api.ErrCorrupt},
	} {
		refuse(t, c.b, c.want)
	}
}

// P1401: a length that may not be is told where all bytes of it are there.
func TestTakeOfLengthsThatMayNotBe(t *testing.T) {
	for _, n := range []int{most + 1, most + 2, 1 << 15, 1<<16 - 1} {
		b := framed(strings.Repeat("a", n))
		refuse(t, b, api.ErrCorrupt)
		refuse(t, b+"x", api.ErrCorrupt)
		refuse(t, turned(b, 8*len(b)-32, 1), api.ErrCorrupt)
		for _, few := range []int{6, 7, most + 10, n + 5, n + 9} {
			refuse(t, b[:few], api.ErrForm)
		}
		refuse(t, turned(b, 0, 1)[:6], api.ErrCorrupt)
	}
}

// P1402
func TestAll(t *testing.T) {
	a, long := framed("a"), framed(strings.Repeat("x", most))
	for _, c := range []struct {
		frames []string // one behind the other
		behind string
	}{
		{nil, ""}, {nil, "x"}, {nil, a[:10]}, {nil, "abcdefghijkl"},
		{[]string{"a"}, ""}, {[]string{"a"}, "x"}, {[]string{"a"}, a[:5]}, {[]string{"a"}, a[:6]}, {[]string{"a"}, a[:10]}, {[]string{"a"}, "abcdefghijkl"},
		{[]string{""}, ""}, {[]string{"", "", ""}, ""}, {[]string{"", "", ""}, "\x00"},
		{[]string{"a", "bc", "", "a"}, ""}, {[]string{"a", "bc"}, turned(a, 80, 1<<31) + a}, {[]string{"a", "bc"}, turned(a, 0, 1<<31) + a + a}, {[]string{"a"}, "x" + a},
		{[]string{a, a + a}, ""}, {[]string{a + "x"}, a[1:]}, // frames within a frame
		{[]string{strings.Repeat("x", most), "a"}, ""}, {[]string{"a"}, framed(strings.Repeat("x", most+1)) + a}, {[]string{"a"}, long[:most]},
	} {
		b := ""
		for _, x := range c.frames {
			b += framed(x)
		}
		got, n := guard.All(b + c.behind)
		if !slices.Equal(got, c.frames) || n != len(b) {
			t.Errorf("All of frames of %q and %q behind: %q, %d, not %d", c.frames, short(c.behind), got, n, len(b))
		}
	}
}

// P1402: as many frames as one likes: none is copied again for each other one.
func TestAllOfManyFrames(t *testing.T) {
	const many = 300000
	got, n := guard.All(strings.Repeat(framed("a"), many) + "x")
	if len(got) != many || n != many*len(framed("a")) {
		t.Errorf("All of %d frames: %d, %d bytes", many, len(got), n)
	}
}

// read tells by the chapter's words what Take tells.
func read(b string) (string, string, api.Errno) {
	if len(b) < 6 {
		return "", "", api.ErrForm
	}
	if b[2:6] != four(sumOf(b[:2])) {
		return "", "", api.ErrCorrupt
	}
	n := 256*int(b[0]) + int(b[1])
	if len(b) < 6+n+4 {
		return "", "", api.ErrForm
	}
	if n > most || b[6+n:10+n] != four(sumOf(b[6:6+n])) {
		return "", "", api.ErrCorrupt
	}
	return b[6 : 6+n], b[10+n:], api.OK
}

// hold holds Take and All against the chapter's words, and tells how many
// frames there are.
func hold(t *testing.T, b string) int {
	t.Helper()
	within, behind, e := read(b)
	if e == api.OK {
		take(t, b, within, behind)
	} else {
		refuse(t, b, e)
	}
	var want []string
	left := b
	for e == api.OK {
		want, left = append(want, within), behind
		within, behind, e = read(left)
	}
	if got, n := guard.All(b); !slices.Equal(got, want) || n != len(b)-len(left) {
		t.Fatalf("All(%q): %q, %d, not %q, %d", b, got, n, want, len(b)-len(left))
	}
	return len(want)
}

// P1401, P1402: frames and pieces of them, one behind the other, by chance.
func TestFramesByChance(t *testing.T) {
	rnd := rand.New(rand.NewSource(17))
	piece := func() string {
		b := framed(chance(rnd, rnd.Intn(6)))
		switch rnd.Intn(12) {
		case 0:
			return b[:rnd.Intn(len(b))]
		case 1:
			return chance(rnd, rnd.Intn(12))
		case 2:
			return turned(b, rnd.Intn(8*len(b)-31), rnd.Uint32())
		case 3:
			return head(rnd.Intn(8)) + chance(rnd, rnd.Intn(12))
		}
		return b
	}
	taken := map[int]int{}
	for range 20000 {
		b := ""
		for range rnd.Intn(5) {
			b += piece()
		}
		taken[hold(t, b)]++
	}
	for n := range 5 {
		if taken[n] < 500 {
			t.Errorf("only %d times there were %d frames", taken[n], n)
		}
	}
}

// P1401: each byte of some frames, turned to each other one.
func TestTakeOfEachTurnedByte(t *testing.T) {
	for _, whole := range []string{framed(""), framed("a"), framed("\xff\x00é") + "behind"} {
		b := []byte(whole)
		for i, was := range b {
			for c := range 256 {
				b[i] = byte(c)
				hold(t, string(b))
			}
			b[i] = was
		}
	}
}

// P1403: bits that are turned among 32 of a frame, wherever they stand: those
// of all short patterns, of some long ones, and of others by chance.
func TestTurnedBitsAreTold(t *testing.T) {
	rnd := rand.New(rand.NewSource(18))
	patterns := []uint32{1<<32 - 1, 1<<31 | 1, 1<<31 | 1<<15, 1<<32 - 2, 1<<31 - 1, 0xF4ACFB13, bits.Reverse32(0xF4ACFB13), 0xAAAAAAAA, 0x55555555, 0xFF00FF00, 1<<31 | 0xF4ACFB13>>1}
	for p := range uint32(1<<8 - 1) {
		patterns = append(patterns, (p+1)<<24, p+1)
	}
	for range 100 {
		patterns = append(patterns, rnd.Uint32()|1<<31)
	}
	for _, within := range []string{"", "a", "\x00\x00", "\xff\xff\xff", "abcdefgh", chance(rnd, 40)} {
		b := framed(within)
		for at := range 8*len(b) - 31 {
			for _, p := range patterns {
				for _, behind := range []string{"", b} {
					refuse(t, turned(b, at, p)+behind, api.ErrCorrupt)
				}
			}
		}
	}
}

// P1403: the same of the greatest frame, at its ends and in between.
func TestTurnedBitsOfTheGreatestFrame(t *testing.T) {
	rnd := rand.New(rand.NewSource(19))
	b := framed(chance(rnd, most))
	last := 8*len(b) - 32
	places := []int{0, 1, 15, 16, 17, 31, 32, 47, 48, 49, last - 33, last - 32, last - 31, last - 1, last}
	for range 200 {
		places = append(places, rnd.Intn(last+1))
	}
	for _, at := range places {
		for _, p := range []uint32{1, 1 << 31, 1<<32 - 1, 1<<31 | 1, rnd.Uint32() | 1} {
			refuse(t, turned(b, at, p), api.ErrCorrupt)
		}
	}
}

// apart tells by how much both sums of a frame of n bytes are not right.
func apart(b string, n int) uint64 {
	first, second := b[2:6], b[6+n:10+n]
	var told uint64
	for i, c := range []byte(first + second) {
		told |= uint64(c) << (56 - 8*i)
	}
	return told ^ (uint64(guard.Of(b[:2]))<<32 | uint64(guard.Of(b[6:6+n])))
}

// alone tells whether no list of some of these, put together by exclusive or,
// comes to 0.
func alone(l []uint64) bool {
	var by [64]uint64 // by its highest bit
	for _, v := range l {
		for v != 0 && by[bits.Len64(v)-1] != 0 {
			v ^= by[bits.Len64(v)-1]
		}
		if v == 0 {
			return false
		}
		by[bits.Len64(v)-1] = v
	}
	return true
}

// P1403: of all patterns of 32 bits, at each place. What turned bits do to the
// sums is, put together by exclusive or, what each of them does: so that none
// of these patterns is lost, if no list of some of its bits comes to nothing.
func TestNoPatternIsLost(t *testing.T) {
	rnd := rand.New(rand.NewSource(20))
	for n := range 30 {
		b := framed(chance(rnd, n))
		if apart(b, n) != 0 {
			t.Fatalf("the sums of %q are not right", b)
		}
		for at := range 8*len(b) - 31 {
			var each []uint64
			for i := range 32 {
				each = append(each, apart(turned(b, at, 1<<(31-i)), n))
			}
			if !alone(each) {
				t.Fatalf("some bits of %d bytes among those from %d on are turned, and both sums are right", n, at)
			}
			p, want := rnd.Uint32(), uint64(0)
			for i := range 32 {
				want ^= uint64(p>>(31-i)&1) * each[i]
			}
			if got := apart(turned(b, at, p), n); got != want {
				t.Fatalf("the bits %08X from %d on: %016X, not %016X", p, at, got, want)
			}
		}
	}
}

// Rule 2: an answer shares no memory with what was handed in, nor with what is
// answered later.
func TestAnswersAreNewMemory(t *testing.T) {
	shared := func(a, b string) bool {
		from, at := uintptr(unsafe.Pointer(unsafe.StringData(b))), uintptr(unsafe.Pointer(unsafe.StringData(a)))
		return from <= at && at < from+uintptr(len(b)) || at <= from && from < at+uintptr(len(a))
	}
	b := framed("abc") + framed("de") + "behind"
	within, behind, _ := guard.Take(b)
	again, behindAgain, _ := guard.Take(b)
	all, _ := guard.All(b)
	other, _ := guard.All(b)
	frame, _ := guard.Frame(b)
	if within != "abc" || behind != b[13:] || !slices.Equal(all, []string{"abc", "de"}) || len(other) != 2 || frame != framed(b) {
		t.Fatalf("%q, %q, %q, %q, %q", within, behind, all, other, frame)
	}
	texts := []string{b, within, behind, again, behindAgain, all[0], all[1], other[0], other[1], frame}
	for i, x := range texts {
		for _, y := range texts[:i] {
			if shared(x, y) {
				t.Errorf("%q and %q share memory", x, y)
			}
		}
	}
	all[0] = "turned"
	if other[0] != "abc" {
		t.Error("two answers share memory")
	}
}
