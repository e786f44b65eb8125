package parse

import "leporello/api"

// The ops of nodes.
const (
	opNum = "num"
	opNeg = "neg"
	opBin = "bin"
	opAgg = "agg"
	opFn  = "fn"
	opSel = "sel"
)

// The modes of nodes: by the first of two words, or by the second.
const (
	modeFirst  = 1
	modeSecond = 2
)

// part is a node that is of one of the types below, by its op.
type part any

type (
	num api.Node
	neg api.Node
	bin api.Node
	agg api.Node
	fn  api.Node
	sel api.Node
)

// partOf tells the part that a node is; nil, if it has no such op.
func partOf(n api.Node) part {
	switch n.Op {
	case opNum:
		return num(n)
	case opNeg:
		return neg(n)
	case opBin:
		return bin(n)
	case opAgg:
		return agg(n)
	case opFn:
		return fn(n)
	case opSel:
		return sel(n)
	}
	return nil
}
