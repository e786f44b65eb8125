package kind

import "leporello/api"

// The ops of nodes.
const (
	opNum = "num"
	opSel = "sel"
	opFn  = "fn"
	opAgg = "agg"
	opNeg = "neg"
	opBin = "bin"
)

// maxRank is the greatest number that a quantile may have.
const maxRank = 100

// kind is what a part is: a value of one of the types below; nil, if it may
// not be.
type kind any

type (
	number struct{}
	vector struct{}
	points struct{} // of a while: a Range
)

func isNumber(k kind) bool {
	_, ok := k.(number)
	return ok
}

func isVector(k kind) bool {
	_, ok := k.(vector)
	return ok
}

func isRange(k kind) bool {
	_, ok := k.(points)
	return ok
}

// reckons tells whether a part of that kind may have a sign.
func reckons(k kind) bool { return isNumber(k) || isVector(k) }

// of tells a part's kind.
func of(n api.Node) kind {
	switch len(n.Kids) {
	case 0:
		return ofLeaf(n)
	case 1:
		return ofOne(n, of(n.Kids[0]))
	case 2:
		return ofTwo(n, of(n.Kids[0]), of(n.Kids[1]))
	}
	return nil
}

// ofLeaf tells the kind of a part that has no kids.
func ofLeaf(n api.Node) kind {
	switch {
	case n.Op == opNum:
		return number{}
	case n.Op == opSel && n.N > 0:
		return points{}
	case n.Op == opSel:
		return vector{}
	}
	return nil
}

// ofOne tells the kind of a part that has one kid, of that kind.
func ofOne(n api.Node, kid kind) kind {
	switch {
	case n.Op == opFn && isRange(kid):
		return vector{}
	case n.Op == opAgg && isVector(kid) && numberFits(n.Text, n.N):
		return vector{}
	case n.Op == opNeg && reckons(kid):
		return kid
	}
	return nil
}

// numberFits tells whether an aggregation may have that number.
func numberFits(agg string, n int) bool {
	switch agg {
	case "quantile":
		return 0 <= n && n <= maxRank
	case "topk":
		return 1 <= n && n <= api.MaxRows
	}
	return true
}

// ofTwo tells the kind of a part that has two kids, of those kinds.
func ofTwo(n api.Node, left, right kind) kind {
	switch {
	case n.Op != opBin || !reckons(left) || !reckons(right):
		return nil
	case isVector(left) && isVector(right):
		return vector{}
	case n.Mode != 0:
		return nil
	case isNumber(left) && isNumber(right):
		return number{}
	}
	return vector{}
}
