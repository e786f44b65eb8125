package answer

import "leporello/api"

// part is a part of a query: a value of one of the types below.
type part any

type (
	num struct{ v int }
	sel struct {
		metric   string
		matchers []api.Matcher
	}
	fn struct {
		name    string
		of      sel
		seconds int
	}
	neg struct{ kid api.Node }
	bin struct {
		sign        string
		mode        int
		names       []string
		left, right api.Node
	}
	agg struct {
		name    string
		n, mode int
		names   []string
		kid     api.Node
	}
)

// partOf tells the part that a node is; nil, if it has no such op. It may ask
// for kids, because what kind.Check lets through has as many as its op needs,
// and the kid of a function is a selector.
func partOf(n api.Node) part {
	switch n.Op {
	case "num":
		return num{v: n.N}
	case "sel":
		return selOf(n)
	case "fn":
		kid := n.Kids[0]
		return fn{name: n.Text, of: selOf(kid), seconds: kid.N}
	case "neg":
		return neg{kid: n.Kids[0]}
	case "bin":
		return bin{sign: n.Text, mode: n.Mode, names: n.Names, left: n.Kids[0], right: n.Kids[1]}
	case "agg":
		return agg{name: n.Text, n: n.N, mode: n.Mode, names: n.Names, kid: n.Kids[0]}
	}
	return nil
}

// selOf tells the selector that a node is.
func selOf(n api.Node) sel { return sel{metric: n.Text, matchers: n.Matchers} }
