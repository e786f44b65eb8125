package lex_test

import (
	"math"
	"reflect"
	"regexp"
	"slices"
	"strconv"
	"strings"
	"testing"
	"unicode/utf8"
	"unsafe"

	"leporello/api"
	"leporello/glyph"
	"leporello/lex"
)

func word(at int, text string) api.Token { return api.Token{Kind: api.Word, At: at, Text: text} }

func number(at int, text string) api.Token { return api.Token{Kind: api.Number, At: at, Text: text} }

func quoted(at int, text string) api.Token { return api.Token{Kind: api.String, At: at, Text: text} }

func span(at int, text string) api.Token { return api.Token{Kind: api.Span, At: at, Text: text} }

func sign(at int, text string) api.Token { return api.Token{Kind: api.Sign, At: at, Text: text} }

// cuts holds that a text is cut into just these.
func cuts(t *testing.T, s string, want ...api.Token) {
	t.Helper()
	got, e := lex.Words(s)
	if e != api.OK || !slices.Equal(got, want) {
		t.Errorf("Words(%q): %v, %d, not %v", s, got, e, want)
	}
}

// refuses holds that a text is not cut, and that nothing stands beside that.
func refuses(t *testing.T, want api.Errno, texts ...string) {
	t.Helper()
	for _, s := range texts {
		if got, e := lex.Words(s); e != want || len(got) > 0 {
			t.Errorf("Words(%q): %v, %d, not %d", s, got, e, want)
		}
	}
}

// signs are all there are.
func signs() []string {
	return strings.Fields("+ - * / % ( ) { } [ ] , = == != < <= > >= =~ !~")
}

// P701: the chapter's example, and a query that has all kinds.
func TestWords(t *testing.T) {
	cuts(t, "a >= 5m", word(0, "a"), sign(2, ">="), span(5, "300"))
	cuts(t, `topk by(host)(3,rate(cpu{host=~"a|b",_z!="\n"}[2h]))/on()-007 limit 10`,
		word(0, "topk"), word(5, "by"), sign(7, "("), word(8, "host"), sign(12, ")"), sign(13, "("), number(14, "3"), sign(15, ","),
		word(16, "rate"), sign(20, "("), word(21, "cpu"), sign(24, "{"), word(25, "host"), sign(29, "=~"), quoted(31, "a|b"), sign(36, ","),
		word(37, "_z"), sign(39, "!="), quoted(41, "\n"), sign(45, "}"), sign(46, "["), span(47, "7200"), sign(49, "]"), sign(50, ")"), sign(51, ")"),
		sign(52, "/"), word(53, "on"), sign(55, "("), sign(56, ")"), sign(57, "-"), number(58, "7"), word(62, "limit"), number(68, "10"))
}

// P701
func TestBlanks(t *testing.T) {
	for _, s := range []string{"", " ", "\t", "\n", " \t\n\n\t  "} {
		cuts(t, s)
	}
	cuts(t, " a ", word(1, "a"))
	cuts(t, "\na\t\tb\n", word(1, "a"), word(4, "b"))
	cuts(t, "5 m", number(0, "5"), word(2, "m"))
	cuts(t, "5\tm", number(0, "5"), word(2, "m"))
	cuts(t, "< =", sign(0, "<"), sign(2, "="))
	cuts(t, "a b", word(0, "a"), word(2, "b"))
	cuts(t, "1 2", number(0, "1"), number(2, "2"))
	cuts(t, `" a	" b`, quoted(0, " a\t"), word(6, "b"))
	cuts(t, "a\u00a0b", word(0, "a\u00a0b")) // a blank of another kind is a letter
	refuses(t, api.ErrForm, "\r", "a\rb", "\v", "a\f", "\x00", "1 \x00")
}

// P701
func TestLongestText(t *testing.T) {
	for _, s := range []string{strings.Repeat(" ", api.MaxText), strings.Repeat("\n", api.MaxText-1)} {
		cuts(t, s)
	}
	cuts(t, strings.Repeat(" ", api.MaxText-1)+"a", word(api.MaxText-1, "a"))
	most, e := lex.Words(strings.Repeat("(", api.MaxText))
	if e != api.OK || len(most) != api.MaxText || most[api.MaxText-1] != sign(api.MaxText-1, "(") {
		t.Errorf("%d tokens, %d", len(most), e)
	}
	text := strings.Repeat("a", api.MaxText-2)
	cuts(t, `"`+text+`"`, quoted(0, text))
	// Bytes, not runes: half as many runes are too many.
	refuses(t, api.ErrArg, `"`+text+`a"`, `"`+strings.Repeat("é", api.MaxText/2)+`"`)
	// Whatever stands in it.
	for _, s := range []string{" ", "(", "a", "1", "?", "\xff", "\"", "é"} {
		refuses(t, api.ErrArg, strings.Repeat(s, api.MaxText+1), strings.Repeat(" ", api.MaxText)+s)
	}
	refuses(t, api.ErrForm, strings.Repeat("?", api.MaxText), strings.Repeat("a", api.MaxText), strings.Repeat("1", api.MaxText))
}

// P701: the first wrong thing counts wherever it stands.
func TestNoTokenBegins(t *testing.T) {
	for r := rune(0); r < utf8.RuneSelf; r++ {
		s := string(r)
		if glyph.Kind(r) != 4 || slices.Contains(signs(), s) {
			continue
		}
		refuses(t, api.ErrForm, s, " "+s, s+"a", "a"+s, "1"+s, "1s"+s, "+"+s, "<"+s+" ", `"a"`+s, "a "+s+" b")
	}
	for _, s := range []string{"\xff", "\x80", "\xc3", "\xe2\x82", "\uFFFD", "\xed\xa0\x80", "!", "~", "\\", ".", "'a'", "`a`"} {
		refuses(t, api.ErrForm, s, " "+s, s+" a", "a"+s, "é"+s, "12"+s, "12s"+s, "<="+s, `""`+s, "a "+s+" b")
	}
}

// P701
func TestWord(t *testing.T) {
	for _, s := range []string{
		"a", "Z", "_", "é", "€", "😀", "a1", "_9", "__", "été9", "by", "order", "s", "m", "h", "m5", "s5m", "a\u00a0b", "\ufffc", "\ufffe",
		strings.Repeat("a", api.MaxName), strings.Repeat("é", api.MaxName), strings.Repeat("😀", api.MaxName-1) + "7", "_" + strings.Repeat("0", api.MaxName-1),
	} {
		cuts(t, s, word(0, s))
		n := len(s)
		cuts(t, s+" "+s, word(0, s), word(n+1, s))
		cuts(t, s+"+"+s, word(0, s), sign(n, "+"), word(n+1, s))
		cuts(t, s+`"x"`+s, word(0, s), quoted(n, "x"), word(n+3, s))
	}
	refuses(t, api.ErrForm,
		strings.Repeat("a", api.MaxName+1), strings.Repeat("é", api.MaxName+1), strings.Repeat("a", api.MaxName)+"1", "_"+strings.Repeat("0", api.MaxName), "("+strings.Repeat("b", api.MaxName+1)+")", strings.Repeat("a", 2*api.MaxName),
		"a.b", "a:b", "a$", "a\uFFFD", "a\xffb")
	cuts(t, "a-b", word(0, "a"), sign(1, "-"), word(2, "b"))
}

// P701
func TestNumber(t *testing.T) {
	for _, c := range []struct{ s, want string }{
		{"0", "0"}, {"00", "0"}, {"0000000000000", "0"}, {"1", "1"}, {"01", "1"}, {"10", "10"}, {"0010", "10"}, {"007", "7"}, {"0000000000009", "9"}, {"1234567890", "1234567890"},
		{"999999999999", "999999999999"}, {"0999999999999", "999999999999"}, {"1000000000000", "1000000000000"}, {"0100000000000", "100000000000"}, {"0012345678901", "12345678901"},
	} {
		cuts(t, c.s, number(0, c.want))
		cuts(t, " "+c.s+"]"+c.s+"\n", number(1, c.want), sign(1+len(c.s), "]"), number(2+len(c.s), c.want))
		cuts(t, "-"+c.s, sign(0, "-"), number(1, c.want))
	}
	refuses(t, api.ErrForm,
		"1000000000001", "1000000000010", "2000000000000", "9999999999999", // more than MaxV
		"00000000000000", "00000000000001", "01000000000000", "10000000000000", "00000000000000000000000000", // more than 13 digits
		"9223372036854775807", "9223372036854775808", "18446744073709551616", "18446744073709551617", strings.Repeat("9", 100), // they would wrap round
		"(1000000000001)", "1 00000000000000", "1.5", "1e5", "0x10", "0b1", "0o7", "1_000", "1é", "1a", "1A", "1_", "1😀", "0z", "5 1a")
}

// P701
func TestSpan(t *testing.T) {
	for _, c := range []struct{ s, want string }{
		{"0s", "0"}, {"0m", "0"}, {"0h", "0"}, {"00s", "0"}, {"1s", "1"}, {"1m", "60"}, {"1h", "3600"}, {"5m", "300"}, {"05m", "300"}, {"90m", "5400"}, {"24h", "86400"},
		{"1000000000s", "1000000000"}, {"0001000000000s", "1000000000"}, {"999999999s", "999999999"}, {"16666666m", "999999960"}, {"277777h", "999997200"}, {"0000000277777h", "999997200"}, {"0000000000000h", "0"},
	} {
		cuts(t, c.s, span(0, c.want))
		cuts(t, "["+c.s+"]", sign(0, "["), span(1, c.want), sign(1+len(c.s), "]"))
		cuts(t, c.s+" 5"+`""`, span(0, c.want), number(len(c.s)+1, "5"), quoted(len(c.s)+2, ""))
	}
	refuses(t, api.ErrForm,
		"1000000001s", "16666667m", "277778h", "1000000000m", "1000000000h", "9999999999s", "1000000000000s", "1000000000000m", "1000000000000h", // more than MaxT
		"1000000000001s", "9999999999999h", "00000000000000s", "00001000000000s", "00000000000001s", "00000000000005m", strings.Repeat("0", 40)+"h", strings.Repeat("9", 40)+"h", "5124095576030432h", "307445734561825861m", // no such digits
		"5ms", "5mm", "5ss", "5m5", "5s0", "5m_", "5mé", "5h5m", "1h30m", "5sa", "5m5m", // a letter or a digit behind it
		"5d", "5S", "5M", "5H", "5w", "5y", "5é", "5_s", "5_", "5ſ", "0d", // other letters
		"5s\xff", "5m.", "5m?", "5s\uFFFD")
}

// P701
func TestString(t *testing.T) {
	for _, text := range []string{
		"", "a", " ", "\n", "\t", `"`, `\`, `\"`, `"\`, `\\`, `\\\`, `""`, `\n`, "é€😀", "\uFFFD", "\xff", "\xc3é", "\x00\x7f", "a b", "+-*/", "{}", "5m", "'", "`", "\"\n\xe2\x82\\", `a" "b`, `a\" \"b`,
	} {
		q := glyph.Quote(text)
		n := len(q)
		cuts(t, q, quoted(0, text))
		cuts(t, q+q, quoted(0, text), quoted(n, text))
		cuts(t, "a="+q+" b", word(0, "a"), sign(1, "="), quoted(2, text), word(n+3, "b"))
		cuts(t, q+"5", quoted(0, text), number(n, "5"))
	}
	cuts(t, `"\\"a`, quoted(0, `\`), word(4, "a"))
	cuts(t, `"\\\"a"`, quoted(0, `\"a`))
	cuts(t, `"a" + "b"`, quoted(0, "a"), sign(4, "+"), quoted(6, "b"))
	cuts(t, `"\xff\x80"`, quoted(0, "\xff\x80"))
	cuts(t, `"\\xff"`, quoted(0, `\xff`))
	refuses(t, api.ErrForm,
		`"`, `"a`, `a"`, `"\"`, `"\\\"`, `"a\`, `"a" "`, `"""`, `"\\""`, "\"a\n", // none closes it
		`"\a"`, `"\t"`, `"\r"`, `"\0"`, `"\u00e9"`, `"\é"`, `"\ "`, `"\x"`, `"\xf"`, `"\xfg"`, `"\xFF"`, `"\x41"`, `"\x0a"`, `"\xc3\xa9"`, `"\X80"`, // other escapes
		"\"\n\"", "\"a\nb\"", "\"\xff\"", "\"\xc3\"", "\"\xe2\x82\"", // signs as they are that Quote writes in another way
		`'a'`, `"\a" b`, `a "\q"`, "\"\\\xff\"", "\"\\\n\"")
}

// P701: the longest one.
func TestSigns(t *testing.T) {
	for _, s := range signs() {
		cuts(t, s, sign(0, s))
		cuts(t, s+" "+s, sign(0, s), sign(len(s)+1, s))
		cuts(t, "a"+s+"1", word(0, "a"), sign(1, s), number(1+len(s), "1"))
		cuts(t, s+"é", sign(0, s), word(len(s), "é"))
		cuts(t, `""`+s+`""`, quoted(0, ""), sign(2, s), quoted(2+len(s), ""))
	}
	cuts(t, "===", sign(0, "=="), sign(2, "="))
	cuts(t, "====", sign(0, "=="), sign(2, "=="))
	cuts(t, "===~", sign(0, "=="), sign(2, "=~"))
	cuts(t, "=~=", sign(0, "=~"), sign(2, "="))
	cuts(t, "!==", sign(0, "!="), sign(2, "="))
	cuts(t, "!=!~", sign(0, "!="), sign(2, "!~"))
	cuts(t, "!~=", sign(0, "!~"), sign(2, "="))
	cuts(t, "<==", sign(0, "<="), sign(2, "="))
	cuts(t, "<>=", sign(0, "<"), sign(1, ">="))
	cuts(t, "<<", sign(0, "<"), sign(1, "<"))
	cuts(t, "=<", sign(0, "="), sign(1, "<"))
	cuts(t, "--*/%", sign(0, "-"), sign(1, "-"), sign(2, "*"), sign(3, "/"), sign(4, "%"))
	cuts(t, "(){}[],", sign(0, "("), sign(1, ")"), sign(2, "{"), sign(3, "}"), sign(4, "["), sign(5, "]"), sign(6, ","))
	refuses(t, api.ErrForm, "==~", "==~=", "<=~", ">=~", "!", "~", "! =", "= ~", "!!=", "~=", "&&", "||", "^", "a!b", "!a", "=!", ":=", ";", "?")
}

// P702
func TestSign(t *testing.T) {
	all := []string{"+", "-", "*", "/", "%", "(", ")", "{", "}", "[", "]", ",", "=", "==", "!=", "<", "<=", ">", ">=", "=~", "!~"}
	for _, s := range all {
		if !lex.Sign(s) {
			t.Errorf("Sign(%q): false", s)
		}
		for _, x := range []string{s + " ", " " + s, s + "=" + s, s + "a", s + "\x00", s + "~~"} {
			if lex.Sign(x) {
				t.Errorf("Sign(%q): true", x)
			}
		}
	}
	// All texts of at most two bytes, and what is near to signs.
	for a := range 256 {
		one := string([]byte{byte(a)})
		if got := lex.Sign(one); got != slices.Contains(all, one) {
			t.Errorf("Sign(%q): %v", one, got)
		}
		for b := range 256 {
			two := one + string([]byte{byte(b)})
			if got := lex.Sign(two); got != slices.Contains(all, two) {
				t.Errorf("Sign(%q): %v", two, got)
			}
		}
	}
	for _, s := range []string{"", "===", "!==", "<=>", "...", "on", "by", "－", "≤", strings.Repeat("=", 1000)} {
		if lex.Sign(s) {
			t.Errorf("Sign(%q): true", s)
		}
	}
}

// P702
func TestJoin(t *testing.T) {
	for _, c := range []struct {
		l    []api.Token
		want string
	}{
		{nil, ""}, {[]api.Token{}, ""},
		{[]api.Token{word(0, "a")}, "a"}, {[]api.Token{number(0, "5")}, "5"}, {[]api.Token{sign(0, ">=")}, ">="}, {[]api.Token{span(0, "300")}, "300s"}, {[]api.Token{quoted(0, "a\"\\\n\xff")}, `"a\"\\\n\xff"`}, {[]api.Token{quoted(0, "")}, `""`},
		{[]api.Token{word(0, "a"), sign(2, ">="), span(5, "300")}, "a >= 300s"},
		{[]api.Token{sign(9, "("), sign(9, "("), quoted(-1, "(")}, `( ( "("`},
		{[]api.Token{span(0, "0"), number(0, "0"), word(0, "s")}, "0s 0 s"},
		// Texts as they stand, also those that Words does not make.
		{[]api.Token{word(0, ""), word(0, ""), word(0, "a b")}, "  a b"}, {[]api.Token{span(0, "")}, "s"}, {[]api.Token{number(0, "007")}, "007"}, {[]api.Token{word(0, "\xff\n\"")}, "\xff\n\""}, {[]api.Token{sign(0, "?")}, "?"},
		{[]api.Token{{Kind: 0, Text: "x"}, {Kind: 6, Text: "y"}, {Kind: -1, Text: "z"}, {Kind: math.MaxInt, At: math.MinInt, Text: "5"}}, "x y z 5"}, {[]api.Token{{}}, ""}, {[]api.Token{{}, {}}, " "},
	} {
		if got := lex.Join(c.l...); got != c.want {
			t.Errorf("Join(%v): %q, not %q", c.l, got, c.want)
		}
	}
}

// Rule 2: an answer shares no memory with what was handed in, nor with another.
func TestAnswersAreNew(t *testing.T) {
	s := strings.Clone(`word 123456 77m "text" <=`)
	first, _ := lex.Words(s)
	second, _ := lex.Words(s)
	want := []api.Token{word(0, "word"), number(5, "123456"), span(12, "4620"), quoted(16, "text"), sign(23, "<=")}
	if !slices.Equal(first, want) || !slices.Equal(second, want) {
		t.Fatalf("%v, %v", first, second)
	}
	for i, x := range first {
		p := uintptr(unsafe.Pointer(unsafe.StringData(x.Text)))
		from := uintptr(unsafe.Pointer(unsafe.StringData(s)))
		if from <= p && p < from+uintptr(len(s)) {
			t.Errorf("%v is a piece of what was handed in", x)
		}
		if unsafe.StringData(x.Text) == unsafe.StringData(second[i].Text) {
			t.Errorf("%v is a piece of another answer", x)
		}
		first[i] = api.Token{}
	}
	if again, _ := lex.Words(s); !slices.Equal(again, want) || !slices.Equal(second, want) {
		t.Errorf("%v, %v", again, second)
	}
	for _, x := range want {
		l := []api.Token{x}
		if got := lex.Join(l...); unsafe.StringData(got) == unsafe.StringData(x.Text) || l[0] != x {
			t.Errorf("Join of %v: %q, of what was handed in", x, got)
		}
	}
}

// reader cuts texts by the chapter's words, told as regular expressions.
type reader struct{ blanks, chain, word, number, span, quoted, sign *regexp.Regexp }

func newReader() reader {
	const letters = `A-Za-z_\x{80}-\x{FFFC}\x{FFFE}-\x{10FFFF}`
	return reader{
		blanks: regexp.MustCompile(`^[ \t\n]+`),
		chain:  regexp.MustCompile(`^[0-9` + letters + `]+`),
		word:   regexp.MustCompile(`^[` + letters + `][0-9` + letters + `]{0,29}$`),
		number: regexp.MustCompile(`^0*?(0|[1-9][0-9]*)$`),
		span:   regexp.MustCompile(`^([0-9]{1,13})([smh])$`),
		quoted: regexp.MustCompile(`(?s)^"(?:[^\\"]|\\.)*"`),
		sign:   regexp.MustCompile(`^(?:==|!=|<=|>=|=~|!~|[-+*/%(){}\[\],=<>])`),
	}
}

// words tells what Words is to tell.
func (r reader) words(s string) ([]api.Token, api.Errno) {
	var all []api.Token
	for at := 0; at < len(s); {
		if n := len(r.blanks.FindString(s[at:])); n > 0 {
			at += n
			continue
		}
		x, n := r.first(s[at:])
		if n == 0 {
			return nil, api.ErrForm
		}
		x.At = at
		all = append(all, x)
		at += n
	}
	return all, api.OK
}

// first tells the first token and its bytes; 0: there is none.
func (r reader) first(s string) (api.Token, int) {
	if c := r.chain.FindString(s); c != "" {
		return r.ofChain(c)
	}
	if q := r.quoted.FindString(s); q != "" {
		if text, ok := glyph.Unquote(q); ok {
			return quoted(0, text), len(q)
		}
		return api.Token{}, 0
	}
	x := r.sign.FindString(s)
	return sign(0, x), len(x)
}

// ofChain tells the token that letters and digits are.
func (r reader) ofChain(c string) (api.Token, int) {
	if r.word.MatchString(c) {
		return word(0, c), len(c)
	}
	if m := r.number.FindStringSubmatch(c); m != nil {
		n, e := strconv.ParseInt(m[1], 10, 64)
		if len(c) <= 13 && e == nil && n <= api.MaxV {
			return number(0, m[1]), len(c)
		}
	}
	if m := r.span.FindStringSubmatch(c); m != nil {
		n, _ := strconv.ParseInt(m[1], 10, 64)
		n *= map[string]int64{"s": 1, "m": 60, "h": 3600}[m[2]]
		if n <= api.MaxT {
			return span(0, strconv.FormatInt(n, 10)), len(c)
		}
	}
	return api.Token{}, 0
}

// P701: all short texts of some pieces, against regular expressions; what was
// cut is joined and cut again.
func TestWordsOfEachText(t *testing.T) {
	r := newReader()
	for _, c := range []struct {
		pieces []string
		n      int
	}{
		{[]string{"a", "s", "é", "1", "0", " ", "\"", "\\", "=", "!", "~", "<", "n", "\xff", "(", "."}, 4},
		{[]string{"\"", "\\", "n", "\n", "x", "ff", "\xff", "é"}, 5},
		{[]string{"0", "7", "s", "m", "h", "_", " ", "\uFFFD"}, 5},
		{[]string{"=", "!", "~", "<", ">", " "}, 6},
		{[]string{"0", "1", "000000", "00000000000", "999999999", "s", "m", "h"}, 4},
		{[]string{"a", "é", "aaaaaaaaaa", "ééééééééé", "0123456789", " "}, 5},
	} {
		for _, s := range texts(c.pieces, c.n) {
			want, e := r.words(s)
			got, errno := lex.Words(s)
			if errno != e || !slices.Equal(got, want) {
				t.Fatalf("Words(%q): %v, %d, not %v, %d", s, got, errno, want, e)
			}
			joinsBack(t, got)
		}
	}
}

// joinsBack holds that tokens, joined and cut again, are the same, but where
// they begin.
func joinsBack(t *testing.T, l []api.Token) {
	t.Helper()
	s := lex.Join(l...)
	again, e := lex.Words(s)
	if e != api.OK || len(again) != len(l) {
		t.Fatalf("Words(%q): %v, %d, not %v", s, again, e, l)
	}
	for i := range l {
		if again[i].Kind != l[i].Kind || again[i].Text != l[i].Text {
			t.Fatalf("Words(%q): %v, not %v", s, again, l)
		}
	}
	if twice := lex.Join(again...); twice != s {
		t.Fatalf("Join: %q, not %q", twice, s)
	}
}

// P701, P702: tokens of all kinds, one behind the other, are cut as they were
// joined, with each At.
func TestWordsOfJoin(t *testing.T) {
	some := []api.Token{word(0, "a"), word(0, "s"), word(0, "é9"), number(0, "0"), number(0, "1000000000000"), span(0, "0"), span(0, "1000000000"), quoted(0, ""), quoted(0, "\"\\"), quoted(0, " \xff\n")}
	for _, s := range signs() {
		some = append(some, sign(0, s))
	}
	for _, a := range some {
		for _, b := range some {
			for _, c := range some {
				b.At = len(lex.Join(a)) + 1
				c.At = len(lex.Join(a, b)) + 1
				want := []api.Token{a, b, c}
				s := lex.Join(want...)
				if got, e := lex.Words(s); e != api.OK || !reflect.DeepEqual(got, want) {
					t.Fatalf("Words(%q): %v, %d, not %v", s, got, e, want)
				}
			}
		}
	}
}

// texts tells all texts of at most n of these pieces.
func texts(pieces []string, n int) []string {
	all := []string{""}
	for from, round := 0, 0; round < n; round++ {
		end := len(all)
		for _, s := range all[from:end] {
			for _, p := range pieces {
				all = append(all, s+p)
			}
		}
		from = end
	}
	return all
}
