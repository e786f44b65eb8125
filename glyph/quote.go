package glyph

import (
	"strconv"
	"strings"
	"unicode/utf8"
)

// Quote tells a text in quotation marks.
func Quote(s string) string {
	var b strings.Builder
	b.WriteByte('"')
	for i, r := range s {
		switch {
		case r == '"' || r == '\\':
			b.WriteByte('\\')
			b.WriteRune(r)
		case r == '\n':
			b.WriteString(`\n`)
		case r == utf8.RuneError && !strings.HasPrefix(s[i:], "\uFFFD"):
			// The rune alone does not tell a wrong byte from a right 0xFFFD.
			writeByte(&b, s[i])
		default:
			b.WriteRune(r)
		}
	}
	b.WriteByte('"')
	return b.String()
}

// writeByte writes a byte as two digits behind a backslash and an x.
func writeByte(b *strings.Builder, c byte) {
	const digits = "0123456789abcdef"
	b.WriteString(`\x`)
	b.WriteByte(digits[c>>4])
	b.WriteByte(digits[c&15])
}

// Unquote tells the text of it.
func Unquote(s string) (string, bool) {
	if len(s) < 2 || s[0] != '"' || s[len(s)-1] != '"' {
		return "", false
	}
	text, ok := unescape(s[1 : len(s)-1])
	// Many texts can be read that Quote would have written in another way
	// (\x41, a newline as it is): only its own way counts.
	if !ok || Quote(text) != s {
		return "", false
	}
	return text, true
}

// unescape tells a text with its escapes read; false, if one is none.
func unescape(s string) (string, bool) {
	var b strings.Builder
	next := 0
	for i, r := range s {
		if i < next {
			continue
		}
		if r != '\\' {
			b.WriteRune(r)
			continue
		}
		c, n := escape(s[i:])
		if n == 0 {
			return "", false
		}
		b.WriteByte(c)
		next = i + n
	}
	return b.String(), true
}

// escape tells the byte of the escape with which s begins, and how many bytes
// the escape has: 0, if it is none.
func escape(s string) (byte, int) {
	if len(s) < 2 {
		return 0, 0
	}
	switch s[1] {
	case '"', '\\':
		return s[1], 2
	case 'n':
		return '\n', 2
	case 'x':
		if len(s) < 4 {
			return 0, 0
		}
		c, err := strconv.ParseUint(s[2:4], 16, 8)
		if err != nil {
			return 0, 0
		}
		return byte(c), 4
	}
	return 0, 0
}
