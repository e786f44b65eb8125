package pattern

// places is a set of atoms: bit i is the atom i of the graph. 64 bits are
// enough, since each atom has a rune of the pattern, and there are at most
// MaxRegex of these.
type places uint64

// edges tells how one comes into a part, and out of it.
type edges struct {
	none        bool   // there may be no rune between
	first, last places // the atoms that may have the first rune, and the last one
}

// graph is the atoms of a pattern, and which ones may be right behind each.
type graph struct {
	atoms []part
	then  []places
}

// lay puts a part into the graph.
func (g *graph) lay(x part) edges {
	if c, ok := x.(choice); ok {
		return g.layChoice(c)
	}
	if c, ok := x.(chain); ok {
		return g.layChain(c)
	}
	if t, ok := x.(times); ok {
		return g.layTimes(t)
	}
	return g.layAtom(x)
}

// layChoice puts alternatives into the graph.
func (g *graph) layChoice(c choice) edges {
	var all edges
	for _, x := range c {
		e := g.lay(x)
		all.none = all.none || e.none
		all.first |= e.first
		all.last |= e.last
	}
	return all
}

// layChain puts parts that stand one behind the other into the graph.
func (g *graph) layChain(c chain) edges {
	all := edges{none: true}
	for _, x := range c {
		e := g.lay(x)
		g.link(all.last, e.first)
		if all.none {
			all.first |= e.first
		}
		if e.none {
			all.last |= e.last
		} else {
			all.last = e.last
		}
		all.none = all.none && e.none
	}
	return all
}

// layTimes puts a part that may be left out, or come again, into the graph.
func (g *graph) layTimes(t times) edges {
	e := g.lay(t.what)
	if t.many {
		g.link(e.last, e.first)
	}
	e.none = e.none || t.none
	return e
}

// layAtom puts an atom into the graph.
func (g *graph) layAtom(x part) edges {
	here := places(1) << len(g.atoms)
	g.atoms = append(g.atoms, x)
	g.then = append(g.then, 0)
	return edges{first: here, last: here}
}

// link says that each of some atoms may be right behind each of others.
func (g *graph) link(from, to places) {
	for i := range g.then {
		if from>>i&1 != 0 {
			g.then[i] |= to
		}
	}
}

// hit tells those of some atoms that a rune fits.
func (g *graph) hit(open places, r rune) places {
	var l places
	for i, x := range g.atoms {
		if open>>i&1 != 0 && fits(x, r) {
			l |= 1 << i
		}
	}
	return l
}

// behind tells the atoms that may be right behind one of these.
func (g *graph) behind(hit places) places {
	var l places
	for i, to := range g.then {
		if hit>>i&1 != 0 {
			l |= to
		}
	}
	return l
}

// fits tells whether a rune is what an atom says.
func fits(x part, r rune) bool {
	if o, ok := x.(only); ok {
		return rune(o) == r
	}
	if c, ok := x.(class); ok {
		return c.has(r) != c.not
	}
	_, ok := x.(dot)
	return ok
}

// has tells whether a rune is in one of the items.
func (c class) has(r rune) bool {
	for _, x := range c.items {
		if x.first <= r && r <= x.last {
			return true
		}
	}
	return false
}
