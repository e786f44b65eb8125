package store

import (
	"leporello/api"
	"leporello/glyph"
	"leporello/label"
	"leporello/pattern"
)

// maxMatchers is how many matchers may be asked at once.
const maxMatchers = 10

// question is a matcher that may be asked.
type question struct {
	api.Matcher
	like *pattern.Pattern // of Like and NotLike: the Value
}

// Right tells whether matchers may be.
func Right(m ...api.Matcher) bool {
	_, ok := read(m)
	return ok
}

// read tells the questions that matchers ask; false, if one may not be.
func read(m []api.Matcher) ([]question, bool) {
	if len(m) > maxMatchers {
		return nil, false
	}
	var asked []question
	for _, x := range m {
		q, ok := readOne(x)
		if !ok {
			return nil, false
		}
		asked = append(asked, q)
	}
	return asked, true
}

// readOne tells the question that a matcher asks; false, if it may not be.
func readOne(x api.Matcher) (question, bool) {
	if !glyph.Name(x.Name) {
		return question{}, false
	}
	switch x.Op {
	case api.Is, api.IsNot:
		return question{Matcher: x}, true
	case api.Like, api.NotLike:
		p, e := pattern.Compile(x.Value)
		return question{Matcher: x, like: p}, e == api.OK
	}
	return question{}, false
}

// areTrue tells whether all that is asked is true of labels.
func areTrue(asked []question, l []api.Label) bool {
	for _, q := range asked {
		if !q.isTrue(label.Get(l, q.Name)) {
			return false
		}
	}
	return true
}

// isTrue tells whether what is asked is true of a value.
func (q question) isTrue(value string) bool {
	switch q.Op {
	case api.Is:
		return value == q.Value
	case api.IsNot:
		return value != q.Value
	case api.Like:
		return q.like.Whole(value)
	}
	return !q.like.Whole(value)
}
