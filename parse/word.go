package parse

import (
	"leporello/api"
	"leporello/fixed"
)

// The words of the language that are never a metric.
const (
	order    = "order"
	limit    = "limit"
	offset   = "offset"
	asc      = "asc"
	desc     = "desc"
	on       = "on"
	ignoring = "ignoring"
	by       = "by"
	without  = "without"
)

// How tightly the signs of a bin bind: the later ones more than the earlier.
const (
	loose = iota // of no bin
	compares
	sums
	products
)

// reserved tells whether a word is never a metric.
func reserved(word string) bool {
	switch word {
	case order, limit, offset, asc, desc, on, ignoring, by, without:
		return true
	}
	return false
}

// level tells how tightly a sign binds.
func level(sign string) int {
	switch {
	case fixed.Compares(sign):
		return compares
	case among(sign, "+-"):
		return sums
	case among(sign, "*/%"):
		return products
	}
	return loose
}

// among tells whether a sign is one of those, which are a rune each.
func among(sign, those string) bool {
	for _, r := range those {
		if sign == string(r) {
			return true
		}
	}
	return false
}

// value tells the number that digits are.
func value(digits string) int {
	// No test of what they are: those of a token have room in an int.
	n := 0
	for _, r := range digits {
		n = n*10 + int(r-'0')
	}
	return n
}

// opOf tells the op of a matcher's sign; false, if it is none.
func opOf(sign string) (int, bool) {
	for op := api.Is; op <= api.NotLike; op++ {
		if signOf(op) == sign {
			return op, true
		}
	}
	return 0, false
}

// signOf tells the sign of a matcher's op; "", if there is none.
func signOf(op int) string {
	switch op {
	case api.Is:
		return "="
	case api.IsNot:
		return "!="
	case api.Like:
		return "=~"
	case api.NotLike:
		return "!~"
	}
	return ""
}
