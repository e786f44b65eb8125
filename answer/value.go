package answer

import "leporello/api"

// value is what a part comes to: a value of one of the types below. A number
// is not a vector of one row without labels, though both are answered alike.
type value any

type (
	number int
	rows   []api.Row // a vector
)

// numberOr tells a number as a value, or an error.
func numberOr(v int, e api.Errno) (value, api.Errno) {
	if e != api.OK {
		return nil, e
	}
	return number(v), api.OK
}

// rowsOr tells a vector as a value, or an error.
func rowsOr(l []api.Row, e api.Errno) (value, api.Errno) {
	if e != api.OK {
		return nil, e
	}
	return rows(l), api.OK
}

// rowsOf tells the rows as which a value is answered.
func rowsOf(v value) []api.Row {
	if x, ok := v.(number); ok {
		return []api.Row{{V: int(x)}}
	}
	l, _ := v.(rows)
	return l
}
