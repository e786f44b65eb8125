package fixed

import "leporello/api"

// sign is an op that was read.
type sign struct {
	first rune
	equal bool // a = stands behind it
}

// read tells the sign that an op is; false, if it is none.
func read(op string) (sign, bool) {
	var s sign
	runes := 0
	for _, r := range op {
		switch {
		case runes == 0:
			s.first = r
		case runes == 1 && r == '=':
			s.equal = true
		default:
			return sign{}, false
		}
		runes++
	}
	return s, s.reckons() || s.compares()
}

// reckons tells whether it is one of + - * / %.
func (s sign) reckons() bool {
	switch s.first {
	case '+', '-', '*', '/', '%':
		return !s.equal
	}
	return false
}

// compares tells whether it is one of == != < <= > >=.
func (s sign) compares() bool {
	switch s.first {
	case '=', '!':
		return s.equal
	case '<', '>':
		return true
	}
	return false
}

// holds tells whether two numbers are as a sign that compares says.
func (s sign) holds(a, b int) bool {
	switch s.first {
	case '<':
		return a < b || s.equal && a == b
	case '>':
		return a > b || s.equal && a == b
	case '=':
		return a == b
	}
	return a != b
}

// reckon tells what comes of two Right numbers by a sign that reckons.
func (s sign) reckon(a, b int) (int, api.Errno) {
	switch s.first {
	case '+':
		return within(a + b)
	case '-':
		return within(a - b)
	case '*':
		return times(a, b)
	}
	if b == 0 {
		return 0, api.ErrDiv
	}
	// What comes of / and % is no farther from 0 than a or b.
	if s.first == '/' {
		return a / b, api.OK
	}
	return a % b, api.OK
}

// times tells the product of two Right numbers.
func times(a, b int) (int, api.Errno) {
	// Ahead of the product, since an int has no room for the greatest ones.
	if b != 0 && size(a) > api.MaxV/size(b) {
		return 0, api.ErrOver
	}
	return a * b, api.OK
}

// size tells how far a number is from 0.
func size(v int) int { return max(v, -v) }
