package lex

import (
	"strconv"
	"strings"

	"leporello/api"
	"leporello/glyph"
)

// What glyph.Kind tells.
const (
	letter = 1
	digit  = 2
	blank  = 3
)

// maxDigits is how many digits a number may have.
const maxDigits = 13

// maxSign is how many bytes a sign may have.
const maxSign = 2

// first tells the token with which s, whose first rune is r, begins, and how
// many bytes it has there: 0, if there is none.
func first(r rune, s string) (api.Token, int) {
	switch k := glyph.Kind(r); {
	case k == letter:
		return word(s[:chain(s)])
	case k == digit:
		return number(s[:chain(s)])
	case r == '"':
		return quoted(s[:closed(s)])
	}
	return sign(s)
}

// chain tells how many bytes the letters and digits have with which s begins.
func chain(s string) int {
	for i, r := range s {
		if k := glyph.Kind(r); k != letter && k != digit {
			return i
		}
	}
	return len(s)
}

// word tells the Word that a chain is.
func word(s string) (api.Token, int) {
	if !glyph.Name(s) {
		return api.Token{}, 0
	}
	return api.Token{Kind: api.Word, Text: strings.Clone(s)}, len(s)
}

// number tells the Number or the Span that a chain is. Nothing less than all of
// the chain counts: no letter or digit may stand behind either of them.
func number(s string) (api.Token, int) {
	n := digits(s)
	v, ok := value(s[:n])
	if !ok {
		return api.Token{}, 0
	}
	if n == len(s) {
		return api.Token{Kind: api.Number, Text: strconv.Itoa(v)}, len(s)
	}
	unit := seconds(s[n:])
	// No product wraps round: MaxV hours are some 2^52 seconds.
	if unit == 0 || v*unit > api.MaxT {
		return api.Token{}, 0
	}
	return api.Token{Kind: api.Span, Text: strconv.Itoa(v * unit)}, len(s)
}

// digits tells how many digits, of a byte each, s begins with.
func digits(s string) int {
	for i, r := range s {
		if glyph.Kind(r) != digit {
			return i
		}
	}
	return len(s)
}

// value tells the number that digits are; false, if it may not be.
func value(digits string) (int, bool) {
	if len(digits) > maxDigits {
		return 0, false
	}
	v, e := strconv.Atoi(digits)
	if e != nil || v > api.MaxV {
		return 0, false
	}
	return v, true
}

// seconds tells how many seconds a unit of spans has; 0, if it is none.
func seconds(unit string) int {
	switch unit {
	case "s":
		return 1
	case "m":
		return 60
	case "h":
		return 60 * 60
	}
	return 0
}

// closed tells how many bytes the String has that s begins with, up to the
// quotation mark that closes it: 0, if none does.
func closed(s string) int {
	escaped := false
	for i, r := range s {
		switch {
		case escaped:
			escaped = false
		case r == '\\':
			escaped = true
		case r == '"' && i > 0:
			return i + 1
		}
	}
	return 0
}

// quoted tells the String of a text with its quotation marks.
func quoted(s string) (api.Token, int) {
	text, ok := glyph.Unquote(s)
	if !ok {
		return api.Token{}, 0
	}
	return api.Token{Kind: api.String, Text: text}, len(s)
}

// sign tells the Sign with which s begins, the longest one.
func sign(s string) (api.Token, int) {
	for n := min(maxSign, len(s)); n > 0; n-- {
		if Sign(s[:n]) {
			return api.Token{Kind: api.Sign, Text: strings.Clone(s[:n])}, n
		}
	}
	return api.Token{}, 0
}
