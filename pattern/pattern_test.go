package pattern_test

import (
	"regexp"
	"strings"
	"sync"
	"testing"
	"unicode/utf8"
	"unsafe"

	"leporello/api"
	"leporello/pattern"
)

// compile tells the pattern of a text that is one.
func compile(t *testing.T, p string) *pattern.Pattern {
	t.Helper()
	c, e := pattern.Compile(p)
	if e != api.OK || c == nil {
		t.Fatalf("Compile(%q): %v, %d", p, c, e)
	}
	return c
}

// texts tells all texts of at most n of these.
func texts(alphabet []string, n int) []string {
	all := []string{""}
	for from, round := 0, 0; round < n; round++ {
		end := len(all)
		for _, s := range all[from:end] {
			for _, x := range alphabet {
				all = append(all, s+x)
			}
		}
		from = end
	}
	return all
}

// P301
func TestWholeAndBegins(t *testing.T) {
	for _, c := range []struct {
		p, s   string
		begins int
	}{
		{"a(b|c)*", "abcb", 4}, {"a(b|c)*", "acx", 2}, // the chapter's example
		{"", "", 0}, {"", "a", 0}, // no part at all
		{"a", "a", 1}, {"a", "", -1}, {"a", "b", -1}, {"a", "ab", 1}, {"a", "ba", -1}, {"ab", "a", -1},
		{"ab", "abab", 2}, {"a b", "a b", 3},
		{"|", "", 0}, {"|", "a", 0}, {"a|", "a", 1}, {"|a", "b", 0}, {"a||b", "", 0}, {"a||b", "b", 1}, // alternatives of no part
		{"a|ab|abc", "abcd", 3}, {"abc|ab|a", "abd", 2}, {"ab|cd", "ad", -1}, // the most, whichever stands first
		{"()", "", 0}, {"()", "a", 0}, {"(|)", "a", 0}, {"a()b", "ab", 2}, {"(((a)))", "a", 1}, {"(a|b)(c|d)", "bd", 2},
		{"a*", "", 0}, {"a*", "aaab", 3}, {"a+", "", -1}, {"a+", "aaab", 3}, {"a?", "", 0}, {"a?", "aa", 1},
		{"ab*", "abab", 2}, {"(ab)*", "ababa", 4}, {"(ab)+", "a", -1}, {"(ab)?", "abab", 2}, // of one atom alone
		{"a*a", "aaa", 3}, {"a?a", "a", 1}, {"a+a+", "a", -1}, {"a*b*c", "aabbc", 5},
		{"()*", "a", 0}, {"(a*)*", "aab", 2}, {"(a?)+", "aa", 2}, {"(a*b*)*", "abba", 4}, {"(|a)+b", "aab", 3},
		{"(a*)+b", "aaa", -1}, {"(a|b)*a(a|b)", "abab", 4}, {"(a|b)*a(a|b)", "abbb", 2}, {"(a|b)*abb", "aababbab", 6},
		{".", "a", 1}, {".", "\n", 1}, {".", "", -1}, {".", "é", 1}, {".", "\xff", 1}, {".", "\x00", 1}, {".*", "a\n\xffé", 4}, {"a.c", "abc", 3},
		{`\.`, ".", 1}, {`\.`, "a", -1}, {`\\`, `\`, 1}, {`\a`, "a", 1}, {`\n`, "n", 1}, {`\n`, "\n", -1}, {`\x41`, "x41", 3},
		{`\*`, "*", 1}, {`\+\?\|\(\)\[\]`, "+?|()[]", 7}, {`\*+`, "**a", 2}, {`\é*`, "éé", 2}, {"\\\xff", "\xfe", 1}, // a backslash and any rune
		{"^a$", "^a$", 3}, {"{2}-,\"'/", "{2}-,\"'/", 8}, {"a{2}", "aa", -1}, {"\n", "\n", 1}, // other runes are themselves
		{"é+", "ééa", 2}, {"日本", "日本語", 2}, {"\U0010FFFF", "\U0010FFFF", 1},
		{"\xff", "\xff", 1}, {"\xff", "\xc3", 1}, {"\xff", "\uFFFD", 1}, {"\uFFFD", "\xff", 1}, {"\xff", "\xe2\x82", 1}, {"\xff\xff", "\xe2\x82", 2}, {"é", "\xc3", -1},
	} {
		p := compile(t, c.p)
		if got := p.Begins(c.s); got != c.begins {
			t.Errorf("Begins of %q with %q: %d, not %d", c.s, c.p, got, c.begins)
		}
		if got := p.Whole(c.s); got != (c.begins == utf8.RuneCountInString(c.s)) {
			t.Errorf("Whole of %q by %q: %v", c.s, c.p, got)
		}
		if got := p.Text(); got != c.p {
			t.Errorf("Text of %q: %q", c.p, got)
		}
	}
}

// P301: the runes from 0 to 127 that a class has, or all of them but those.
func TestClass(t *testing.T) {
	for _, c := range []struct {
		p, in string
		not   bool
	}{
		{"[a]", "a", false}, {"[ab]", "ab", false}, {"[aa]", "a", false}, {"[a-e]", "abcde", false}, {"[a-a]", "a", false}, {"[a-cx-z]", "abcxyz", false}, {"[c-ea-d]", "abcde", false},
		{"[^a]", "a", true}, {"[^a-c]", "abc", true}, {"[^^]", "^", true}, {"[a^]", "a^", false}, {`[\^a]`, "^a", false}, {`[^\^]`, "^", true},
		{"[-]", "-", false}, {"[--]", "-", false}, {"[---]", "-", false}, {"[-a]", "-a", false}, {"[a-]", "a-", false}, {"[^-]", "-", true}, {"[^-a]", "-a", true}, // a - that is itself
		{"[a-c-e]", "abc-e", false}, {"[a-c-]", "abc-", false}, {"[+--]", "+,-", false}, {"[--/]", "-./", false}, {"[-a-c]", "-abc", false}, {"[a-c--/]", "abc-./", false},
		{`[a\-c]`, "a-c", false}, {`[\--/]`, "-./", false}, {`[+-\-]`, "+,-", false}, {`[\a-\c]`, "abc", false},
		{"[[]", "[", false}, {"[[a]", "[a", false}, {`[\]]`, "]", false}, {`[\]a]`, "]a", false}, {`[\\]`, `\`, false}, {`[Z-\]]`, `Z[\]`, false}, {`[\\-\]]`, `\]`, false}, {`[^\]]`, "]", true},
		{"[.*+?|()]", ".*+?|()", false}, {"[(-+]", "()*+", false}, {`[\n]`, "n", false}, {"[\n]", "\n", false}, {`[\d]`, "d", false},
		{"[\x00-\x7f]", "", true}, // none is left out
	} {
		p := compile(t, c.p)
		for r := rune(0); r < 128; r++ {
			want := strings.ContainsRune(c.in, r) != c.not
			if got := p.Whole(string(r)); got != want {
				t.Errorf("Whole of %q by %q: %v", r, c.p, got)
			}
		}
		if p.Whole("") || p.Whole("aa") {
			t.Errorf("%q is not of one rune", c.p)
		}
	}
}

// P301
func TestClassOfGreatRunes(t *testing.T) {
	for _, c := range []struct {
		p, s string
		want bool
	}{
		{"[à-é]", "è", true}, {"[à-é]", "ê", false}, {"[^à-é]", "ê", true}, {"[^à-é]", "à", false},
		{"[^a]", "\n", true}, {"[^a]", "\xff", true}, {"[^a]", "\U0010FFFF", true},
		{"[\xff]", "\xfe", true}, {"[\xff]", "\uFFFD", true}, {"[^\xff]", "\xfe", false}, {"[\xff]", "a", false},
		{"[a-\xff]", "é", true}, {"[\uFFF0-\uFFFF]", "\xff", true}, {"[\uFFFE-\uFFFF]", "\xff", false},
		{"[a-é]*", "aézÿ", false}, {"[a-é]*", "aéz", true}, {"[ab][cd]", "bc", true}, {"[ab]+", "abba", true},
	} {
		if got := compile(t, c.p).Whole(c.s); got != c.want {
			t.Errorf("Whole of %q by %q: %v", c.s, c.p, got)
		}
	}
}

// P301
func TestCompileOfNoPattern(t *testing.T) {
	for _, p := range []string{
		"*", "+", "?", "*a", "+a", "?a", "a|*", "a|+b", "(*)", "(+a)", "(?:a)", "(?)", "|?", // no atom right ahead
		"a**", "a++", "a??", "a*+", "a*?", "a+*", "a+?", "a?*", "a?+", "(a*)**", "[a]*+", ".??", `\*++`, // two in a row
		"(", ")", "(a", "a)", "((a)", "(a))", "a(b|", ")(", "()(", "(a|b", "a|)", `(\)`, `\()`,
		"[", "]", "a]", "[a", "[a-", "[a-z", "[^", "[^a", "[]", "[^]", "[]]", "[]a]", "[^]a]", "[a]]", "a[", `[\]`, `[a-\]`, "([)]", "[a](]", "x]*",
		"[b-a]", "[a-cz-y]", "[^b-a]", "[a--]", `[a-\]]`, `[b-\a]`, "[é-z]", "[\uFFFD-\uFFFC]", "[\xff-a]", // a range that falls
		`\`, `a\`, `a|\`, `(\`, `[\`, `[a\`, `[a-\`, `\\\`, // a backslash at the end
	} {
		if c, e := pattern.Compile(p); e != api.ErrForm || c != nil {
			t.Errorf("Compile(%q): %v, %d", p, c, e)
		}
	}
}

// P301
func TestCompileOfAsManyRunesAsMayBe(t *testing.T) {
	for _, p := range []string{
		strings.Repeat("a", api.MaxRegex), strings.Repeat("é", api.MaxRegex), strings.Repeat("\xff", api.MaxRegex), strings.Repeat("|", api.MaxRegex),
		strings.Repeat("(", api.MaxRegex/2) + strings.Repeat(")", api.MaxRegex/2), "[" + strings.Repeat("é", api.MaxRegex-2) + "]", strings.Repeat(`\*`, api.MaxRegex/2),
	} {
		compile(t, p)
		for _, long := range []string{p + "a", "a" + p, p + "\xff", p + "*", p + `\`, "*" + p} { // ErrArg also of what is none
			if c, e := pattern.Compile(long); e != api.ErrArg || c != nil {
				t.Errorf("Compile(%q): %v, %d", long, c, e)
			}
		}
	}
	if c, e := pattern.Compile(strings.Repeat("*", api.MaxRegex)); e != api.ErrForm || c != nil {
		t.Errorf("of stars alone: %v, %d", c, e)
	}
	p := compile(t, strings.Repeat("é", api.MaxRegex))
	if got := p.Begins(strings.Repeat("é", api.MaxRegex+1)); got != api.MaxRegex {
		t.Errorf("Begins: %d", got)
	}
	if p.Whole(strings.Repeat("é", api.MaxRegex-1)) || p.Whole(strings.Repeat("é", api.MaxRegex-1)+"a") {
		t.Error("the last rune counts, too")
	}
}

// P301, rule 5: a nil Pattern, and a zero one.
func TestNoPattern(t *testing.T) {
	for _, p := range []*pattern.Pattern{nil, new(pattern.Pattern)} {
		for _, s := range []string{"", "a", "\xff"} {
			if p.Whole(s) || p.Text() != "" || p.Begins(s) != -1 {
				t.Errorf("%v of %q: %v, %q, %d", p, s, p.Whole(s), p.Text(), p.Begins(s))
			}
		}
	}
}

// library tells the library's pattern of the same meaning; nil, if there is
// none. It is of patterns without classes and backslashes.
func library(p string) *regexp.Regexp {
	// The library reads these as something else.
	for _, s := range []string{"(?", "*?", "+?", "??"} {
		if strings.Contains(p, s) {
			return nil
		}
	}
	// By itself, because )( would be one in brackets.
	if _, err := regexp.Compile(p); err != nil {
		return nil
	}
	re := regexp.MustCompile(`(?s)\A(?:` + p + `)`)
	re.Longest()
	return re
}

// begins tells the runes that the library finds.
func begins(re *regexp.Regexp, s string) int {
	at := re.FindStringIndex(s)
	if at == nil {
		return -1
	}
	return utf8.RuneCountInString(s[:at[1]])
}

// hold holds a pattern against the library's.
func hold(t *testing.T, p string, re *regexp.Regexp, of []string) {
	t.Helper()
	c, e := pattern.Compile(p)
	if re == nil {
		if e != api.ErrForm || c != nil {
			t.Fatalf("Compile(%q): %v, %d", p, c, e)
		}
		return
	}
	if e != api.OK {
		t.Fatalf("Compile(%q): %d", p, e)
	}
	for _, s := range of {
		want := begins(re, s)
		if got := c.Begins(s); got != want {
			t.Fatalf("Begins of %q with %q: %d, not %d", s, p, got, want)
		}
		if got := c.Whole(s); got != (want == utf8.RuneCountInString(s)) {
			t.Fatalf("Whole of %q by %q: %v", s, p, got)
		}
	}
}

// P301: all short patterns, of all short texts.
func TestEachShortPattern(t *testing.T) {
	of := texts([]string{"a", "b", "\xff"}, 3)
	for _, p := range texts([]string{"a", "b", ".", "|", "(", ")", "*", "+", "?"}, 5) {
		hold(t, p, library(p), of)
	}
}

// P301: all patterns of a few pieces, of longer texts.
func TestEachPatternOfPieces(t *testing.T) {
	of := texts([]string{"a", "b", "é"}, 5)
	for _, p := range texts([]string{"a", "b*", "(", ")*", ")+", ")?", "|"}, 5) {
		hold(t, p, library(p), of)
	}
}

// P301: all short classes, of each rune that is near.
func TestEachShortClass(t *testing.T) {
	var of []string
	for r := rune(0); r < 128; r++ {
		of = append(of, string(r))
	}
	for _, items := range texts([]string{"^", "-", "[", `\`, "!", "~"}, 5) {
		p := "[" + items + "]"
		// The library takes a ] right behind the beginning as an item.
		if items == "" || items == "^" {
			hold(t, p, nil, nil)
			continue
		}
		hold(t, p, library(p), of)
	}
}

// W4: no pattern takes more than some deeds a rune.
func TestLongTexts(t *testing.T) {
	long := strings.Repeat("a", 1_000_000)
	for _, p := range []string{"(((((((((a*)*)*)*)*)*)*)*)*)*", "(a|a|a|aa|a?a|.)*", "(a*a*a*a*a*a*a*)*", ".*.*.*.*.*.*", "(a?b?)*(aa|ab)*"} {
		c := compile(t, p)
		if got := c.Begins(long); got != len(long) {
			t.Errorf("Begins with %q: %d", p, got)
		}
		if !c.Whole(long) {
			t.Errorf("Whole by %q", p)
		}
	}
	if compile(t, "(a*)*b").Whole(long) || compile(t, "(a|aa)+b").Begins(long) != -1 {
		t.Error("there is no b")
	}
}

// What was handed in is not kept: what becomes of its bytes changes nothing.
func TestTextIsNotKept(t *testing.T) {
	b := []byte("ab*")
	p := compile(t, unsafe.String(&b[0], len(b)))
	copy(b, "xyz")
	if got := p.Text(); got != "ab*" || !p.Whole("abb") || p.Begins("xyz") != -1 {
		t.Errorf("Text: %q; Begins: %d", got, p.Begins("xyz"))
	}
}

// Rule 2: Text shares no memory with what was handed in, nor with what is answered later.
func TestTextIsNewMemory(t *testing.T) {
	in := strings.Clone("ab*")
	p := compile(t, in)
	a, b := p.Text(), p.Text()
	if a != in || b != in {
		t.Errorf("Text: %q, %q", a, b)
	}
	if unsafe.StringData(a) == unsafe.StringData(in) || unsafe.StringData(a) == unsafe.StringData(b) {
		t.Error("Text shares memory")
	}
}

// A Pattern keeps nothing from call to call: in any order, and at one time, the answers are the same.
func TestPatternIsNotTurned(t *testing.T) {
	p := compile(t, "(ab|a)*c?")
	var all sync.WaitGroup
	for range 8 {
		all.Go(func() {
			for range 200 {
				if p.Begins("abaac") != 5 || p.Begins("b") != 0 || !p.Whole("aba") || p.Whole("abb") || p.Text() != "(ab|a)*c?" {
					t.Error("another answer than the first time")
				}
			}
		})
	}
	all.Wait()
}
