package glyph_test

import (
	"fmt"
	"strings"
	"testing"
	"unicode/utf8"

	"leporello/glyph"
)

// P102
func TestQuoteAndBack(t *testing.T) {
	for _, c := range []struct{ text, quoted string }{
		{"", `""`},
		{"a", `"a"`},
		{`a"b`, `"a\"b"`}, // the chapter's example
		{`\`, `"\\"`},
		{`"`, `"\""`},
		{`\"`, `"\\\""`},
		{`\n`, `"\\n"`},
		{`\xff`, `"\\xff"`},
		{"\n", `"\n"`},
		{"a\nb\tc\r", "\"a\\nb\tc\r\""},
		{"\x00\x7f", "\"\x00\x7f\""},
		{"é€😀", `"é€😀"`},
		{"\uFFFD", "\"\uFFFD\""},
		{"\xff", `"\xff"`},
		{"\xAB\xCD", `"\xab\xcd"`},
		{"\x80\x0a", `"\x80\n"`},
		{"\xc3é", `"\xc3é"`},
		{"\xe2\x82", `"\xe2\x82"`},
		{"\xef\xbf", `"\xef\xbf"`}, // the beginning of 0xFFFD
		{"\xef\xbf\xbd\xef", "\"\uFFFD\\xef\""},
		{"\xed\xa0\x80", `"\xed\xa0\x80"`},
	} {
		if got := glyph.Quote(c.text); got != c.quoted {
			t.Errorf("Quote(%q): %s, not %s", c.text, got, c.quoted)
		}
		if got, ok := glyph.Unquote(c.quoted); !ok || got != c.text {
			t.Errorf("Unquote(%s): %q, %v, not %q", c.quoted, got, ok, c.text)
		}
	}
}

// P102
func TestQuoteOfEachByte(t *testing.T) {
	for i := range 256 {
		c := byte(i)
		want := string([]byte{c})
		switch {
		case c == '"' || c == '\\':
			want = `\` + want
		case c == '\n':
			want = `\n`
		case c >= utf8.RuneSelf:
			want = fmt.Sprintf(`\x%02x`, c)
		}
		want = `"` + want + `"`
		s := string([]byte{c})
		if got := glyph.Quote(s); got != want {
			t.Errorf("Quote(%q): %s, not %s", s, got, want)
		}
		if got, ok := glyph.Unquote(want); !ok || got != s {
			t.Errorf("Unquote(%s): %q, %v", want, got, ok)
		}
	}
}

// P102
func TestUnquoteOfNoQuote(t *testing.T) {
	for _, s := range []string{
		"", `"`, "a", `a"`, `"a`, `'a'`, `"a" `, ` "a"`, `"a""b"`, // no pair of quotation marks around it
		`"a"b"`, `"""`, // a quotation mark within
		`"\"`, `"\\\"`, `"\`, // the last one belongs to a backslash
		`"\a"`, `"\t"`, `"\r"`, `"\0"`, `"\u00e9"`, `"\é"`, `"\ "`, // other escapes
		`"\x"`, `"\xf"`, `"\xfg"`, `"\x+f"`, `"\x_f"`, `"\x f"`, `"\X80"`, // no two digits
		`"\xFF"`, `"\xaB"`, // great letters
		`"\x41"`, `"\x0a"`, `"\x00"`, `"\x22"`, `"\x5c"`, `"\x7f"`, // right UTF-8 needs none
		`"\xc3\xa9"`, `"\xef\xbf\xbd"`, `"\xe2\x82\xac"`, // nor do these, together
		"\"\n\"",                                                 // a newline as it is
		"\"\xff\"", "\"\xc3\"", "\"\\xc3\xa9\"", "\"\xc3\\xa9\"", // wrong bytes as they are
	} {
		if got, ok := glyph.Unquote(s); ok || got != "" {
			t.Errorf("Unquote(%q): %q, %v", s, got, ok)
		}
	}
}

// P102: of all short texts: Unquote tells just the one text of which it is the
// Quote. A Quote is no shorter than its text, so that no text is left out.
func TestUnquoteIsQuoteTurnedRound(t *testing.T) {
	all := texts([]byte{'"', '\\', 'n', 'x', 'f', '\n', 0xFF}, 6)
	of := make(map[string]string, len(all))
	for _, text := range all {
		q := glyph.Quote(text)
		if other, twice := of[q]; twice {
			t.Fatalf("Quote of %q and of %q: %s", text, other, q)
		}
		of[q] = text
	}
	for _, body := range all {
		s := `"` + body + `"`
		want, is := of[s]
		if got, ok := glyph.Unquote(s); ok != is || got != want {
			t.Fatalf("Unquote(%q): %q, %v, not %q, %v", s, got, ok, want, is)
		}
	}
}

// P102: what stands in a Quote is right UTF-8 on one line.
func TestQuoteOfRunesInPieces(t *testing.T) {
	for _, text := range texts([]byte{'a', 0xC3, 0xA9, 0xEF, 0xBF, 0xBD}, 5) {
		q := glyph.Quote(text)
		if !utf8.ValidString(q) || strings.Contains(q, "\n") {
			t.Fatalf("Quote(%q): %q", text, q)
		}
		if got, ok := glyph.Unquote(q); !ok || got != text {
			t.Fatalf("Unquote(%q): %q, %v, not %q", q, got, ok, text)
		}
	}
}
