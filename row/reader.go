package row

import (
	"strings"

	"leporello/api"
)

// reader reads bytes from their beginning on.
type reader struct {
	left  string
	short bool // once more bytes were asked for than were left
}

// take tells the next n bytes; none, if there are fewer.
func (r *reader) take(n int) string {
	if n > len(r.left) {
		r.short = true
		return ""
	}
	taken := r.left[:n]
	r.left = r.left[n:]
	return taken
}

// number tells a number of n bytes, the highest one first.
func (r *reader) number(n int) int {
	v := 0
	for _, c := range []byte(r.take(n)) {
		v = v<<8 | int(c)
	}
	return v
}

// text tells a text that stands behind how many bytes it has.
func (r *reader) text() string { return strings.Clone(r.take(r.number(1))) }

// labels tells labels that stand behind how many they are.
func (r *reader) labels() []api.Label {
	var l []api.Label
	for range r.number(1) {
		name := r.text()
		value := r.text()
		l = append(l, api.Label{Name: name, Value: value})
	}
	return l
}
