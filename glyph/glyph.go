// Package glyph looks at texts rune by rune.
package glyph

import (
	"strings"
	"unicode/utf8"

	"leporello/api"
)

// What Kind tells.
const (
	bad    = 0
	letter = 1
	digit  = 2
	blank  = 3
	other  = 4
)

// Kind tells what a rune is.
func Kind(r rune) int {
	switch {
	case r < 0 || r == utf8.RuneError:
		return bad
	case 'a' <= r && r <= 'z' || 'A' <= r && r <= 'Z' || r == '_' || r >= utf8.RuneSelf:
		return letter
	case '0' <= r && r <= '9':
		return digit
	case r == ' ' || r == '\t' || r == '\n':
		return blank
	}
	return other
}

// Name tells whether a text is a name.
func Name(s string) bool {
	n := 0
	for _, r := range s {
		k := Kind(r)
		if n == api.MaxName || k != letter && (k != digit || n == 0) {
			return false
		}
		n++
	}
	return n > 0
}

// Count tells how many runes there are.
func Count(s string) int {
	n := 0
	for range s {
		n++
	}
	return n
}

// Cut tells the first runes, and the rest.
func Cut(s string, n int) (string, string) {
	at := len(s)
	runes := 0
	for i := range s {
		if runes >= n {
			at = i
			break
		}
		runes++
	}
	// Clones, because an answer shares no memory with what was handed in.
	return strings.Clone(s[:at]), strings.Clone(s[at:])
}

// Spell tells a text's runes.
func Spell(s string) []rune {
	var l []rune
	for _, r := range s {
		l = append(l, r)
	}
	return l
}
