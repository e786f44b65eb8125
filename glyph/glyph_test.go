package glyph_test

import (
	"math"
	"slices"
	"strings"
	"testing"
	"unicode/utf8"
	"unsafe"

	"leporello/api"
	"leporello/glyph"
)

// kindByWords is P101's Kind, asked word by word.
func kindByWords(r rune) int {
	switch {
	case r < 0 || r == 0xFFFD:
		return 0
	case strings.ContainsRune("abcdefghijklmnopqrstuvwxyzABCDEFGHIJKLMNOPQRSTUVWXYZ_", r) || r >= 0x80:
		return 1
	case strings.ContainsRune("0123456789", r):
		return 2
	case r == 32 || r == 9 || r == 10:
		return 3
	}
	return 4
}

// P101
func TestKindOfEachRune(t *testing.T) {
	for r := rune(-300); r <= 0x110010; r++ {
		if got, want := glyph.Kind(r), kindByWords(r); got != want {
			t.Fatalf("Kind(%#x): %d, not %d", r, got, want)
		}
	}
}

// P101
func TestKindAtTheEdges(t *testing.T) {
	for _, c := range []struct {
		r    rune
		want int
	}{
		{'a', 1}, {'z', 1}, {'A', 1}, {'Z', 1}, {'_', 1}, {0x80, 1}, {0xFFFC, 1}, {0xFFFE, 1}, {0xD800, 1}, {0x10FFFF, 1}, {math.MaxInt32, 1},
		{'0', 2}, {'9', 2},
		{' ', 3}, {'\t', 3}, {'\n', 3},
		{-1, 0}, {math.MinInt32, 0}, {0xFFFD, 0},
		{'`', 4}, {'{', 4}, {'@', 4}, {'[', 4}, {'/', 4}, {':', 4}, {'\r', 4}, {'\v', 4}, {0, 4}, {0x7F, 4},
		{0xA0, 1}, // a blank of another kind is a letter
	} {
		if got := glyph.Kind(c.r); got != c.want {
			t.Errorf("Kind(%#x): %d, not %d", c.r, got, c.want)
		}
	}
}

// P101
func TestName(t *testing.T) {
	most := strings.Repeat("é", api.MaxName)
	for _, c := range []struct {
		s    string
		want bool
	}{
		{"a", true}, {"_", true}, {"é", true}, {"host_1", true}, {"été9", true}, {"__0", true},
		{most, true}, {strings.Repeat("a", api.MaxName), true}, {"a" + strings.Repeat("9", api.MaxName-1), true},
		{most + "a", false}, {most + "1", false}, {most + "\xff", false}, {strings.Repeat("a", 1000), false},
		{"", false}, {"9", false}, {"1a", false}, {"a-b", false}, {"a b", false}, {"a ", false}, {" a", false}, {"a\x00", false},
		{"\xff", false}, {"a\xff", false}, {"\uFFFD", false}, {"a\uFFFD", false}, {"a\xc3", false},
	} {
		if got := glyph.Name(c.s); got != c.want {
			t.Errorf("Name(%q): %v, not %v", c.s, got, c.want)
		}
	}
}

// P101
func TestCountAndSpell(t *testing.T) {
	for _, c := range []struct {
		s    string
		want []rune
	}{
		{"", nil},
		{"a", []rune{'a'}},
		{"aé€😀", []rune{'a', 0xE9, 0x20AC, 0x1F600}},
		{"\xff", []rune{0xFFFD}},
		{"\uFFFD", []rune{0xFFFD}},
		{"\xe2\x82", []rune{0xFFFD, 0xFFFD}},             // a rune cut short
		{"\xed\xa0\x80", []rune{0xFFFD, 0xFFFD, 0xFFFD}}, // half of a pair
		{"\xc0\x80", []rune{0xFFFD, 0xFFFD}},             // longer than it need be
		{"\xf4\x90\x80\x80", []rune{0xFFFD, 0xFFFD, 0xFFFD, 0xFFFD}},
		{"a\xc3é\n", []rune{'a', 0xFFFD, 0xE9, '\n'}},
	} {
		if got := glyph.Spell(c.s); !slices.Equal(got, c.want) {
			t.Errorf("Spell(%q): %x, not %x", c.s, got, c.want)
		}
		if got := glyph.Count(c.s); got != len(c.want) {
			t.Errorf("Count(%q): %d, not %d", c.s, got, len(c.want))
		}
	}
}

// P101, rule 2
func TestSpellIsNewEachTime(t *testing.T) {
	l := glyph.Spell("abc")
	l[0] = 'x'
	if got := glyph.Spell("abc"); !slices.Equal(got, []rune{'a', 'b', 'c'}) {
		t.Errorf("Spell again: %q", got)
	}
}

// P101
func TestCut(t *testing.T) {
	for _, c := range []struct {
		s          string
		n          int
		head, rest string
	}{
		{"aéb", 0, "", "aéb"}, {"aéb", 1, "a", "éb"}, {"aéb", 2, "aé", "b"}, {"aéb", 3, "aéb", ""},
		{"aéb", 4, "aéb", ""}, {"aéb", math.MaxInt, "aéb", ""}, {"aéb", -1, "", "aéb"}, {"aéb", math.MinInt, "", "aéb"},
		{"", 0, "", ""}, {"", 3, "", ""}, {"", -3, "", ""},
		{"\xffa\xc3", 1, "\xff", "a\xc3"}, {"\xffa\xc3", 2, "\xffa", "\xc3"}, {"\xffa\xc3", 3, "\xffa\xc3", ""},
		{"\xe2\x82é", 1, "\xe2", "\x82é"}, {"\xe2\x82é", 2, "\xe2\x82", "é"},
		{"\uFFFD\xff", 1, "\uFFFD", "\xff"},
	} {
		head, rest := glyph.Cut(c.s, c.n)
		if head != c.head || rest != c.rest {
			t.Errorf("Cut(%q, %d): %q, %q, not %q, %q", c.s, c.n, head, rest, c.head, c.rest)
		}
	}
}

// P101: both pieces are the text, and the first one has so many runes.
func TestCutOfEachText(t *testing.T) {
	for _, s := range texts([]byte{'a', 0xC3, 0xA9, 0xE2, 0x82, 0xAC}, 4) {
		for n := -1; n <= 5; n++ {
			head, rest := glyph.Cut(s, n)
			want := min(max(n, 0), utf8.RuneCountInString(s))
			if head+rest != s || glyph.Count(head) != want || !slices.Equal(append(glyph.Spell(head), glyph.Spell(rest)...), glyph.Spell(s)) {
				t.Fatalf("Cut(%q, %d): %q, %q", s, n, head, rest)
			}
		}
	}
}

// Rule 2: an answer shares no memory with what was handed in.
func TestCutIsNewMemory(t *testing.T) {
	s := strings.Clone("abcd")
	head, rest := glyph.Cut(s, 2)
	if unsafe.StringData(head) == unsafe.StringData(s) || unsafe.StringData(rest) == unsafe.StringData(s[2:]) {
		t.Error("Cut answers a piece of what was handed in")
	}
}

// texts tells all texts of at most n of these bytes.
func texts(alphabet []byte, n int) []string {
	all := []string{""}
	for from, round := 0, 0; round < n; round++ {
		end := len(all)
		for _, s := range all[from:end] {
			for _, c := range alphabet {
				all = append(all, s+string([]byte{c}))
			}
		}
		from = end
	}
	return all
}
