package window

import (
	"slices"

	"leporello/api"
	"leporello/fixed"
)

// fn is a function of points: a small value of one of the types below, that
// says which one it is.
type fn any

type (
	sumOver   struct{}
	minOver   struct{}
	maxOver   struct{}
	countOver struct{}
	avgOver   struct{}
	lastOver  struct{}
	increase  struct{}
	rate      struct{}
)

// read tells the function of a name; false, if there is none.
func read(name string) (fn, bool) {
	switch name {
	case "sum_over":
		return sumOver{}, true
	case "min_over":
		return minOver{}, true
	case "max_over":
		return maxOver{}, true
	case "count_over":
		return countOver{}, true
	case "avg_over":
		return avgOver{}, true
	case "last_over":
		return lastOver{}, true
	case "increase":
		return increase{}, true
	case "rate":
		return rate{}, true
	}
	return nil, false
}

// least tells of how many points, at least, a function tells something.
func least(f fn) int {
	if _, ok := f.(increase); ok {
		return 2
	}
	if _, ok := f.(rate); ok {
		return 2
	}
	return 1
}

// reckon tells a function of points: of as many as it asks for, at least.
func reckon(f fn, l []api.Point) (int, api.Errno) {
	if _, ok := f.(increase); ok {
		return grown(l)
	}
	if _, ok := f.(rate); ok {
		return grownInTime(l)
	}
	return over(f, numbers(l))
}

// over tells a function of numbers, whatever their times; there is at least
// one number.
func over(f fn, l []int) (int, api.Errno) {
	if _, ok := f.(sumOver); ok {
		return fixed.Sum(l...)
	}
	if _, ok := f.(avgOver); ok {
		return fixed.Mean(l...)
	}
	if _, ok := f.(minOver); ok {
		return slices.Min(l), api.OK
	}
	if _, ok := f.(maxOver); ok {
		return slices.Max(l), api.OK
	}
	if _, ok := f.(countOver); ok {
		return len(l), api.OK
	}
	if _, ok := f.(lastOver); ok {
		return l[len(l)-1], api.OK
	}
	return 0, api.ErrArg
}

// numbers tells the numbers of points.
func numbers(l []api.Point) []int {
	all := make([]int, 0, len(l))
	for _, p := range l {
		all = append(all, p.V)
	}
	return all
}

// grown tells the sum of the steps from each point to the next.
func grown(l []api.Point) (int, api.Errno) {
	var steps []int
	for i := 1; i < len(l); i++ {
		v, e := step(l[i-1].V, l[i].V)
		if e != api.OK {
			return 0, e
		}
		steps = append(steps, v)
	}
	return fixed.Sum(steps...)
}

// step tells how much came from a number to the next.
func step(from, to int) (int, api.Errno) {
	// What fell began anew, from 0.
	if to < from {
		return to, api.OK
	}
	return fixed.Do("-", to, from)
}

// grownInTime tells what grown tells, in 1,000 of the times from the first
// point to the last one.
func grownInTime(l []api.Point) (int, api.Errno) {
	v, e := grown(l)
	if e != api.OK {
		return 0, e
	}
	v, e = fixed.Do("*", v, 1000)
	if e != api.OK {
		return 0, e
	}
	return fixed.Do("/", v, l[len(l)-1].T-l[0].T)
}
