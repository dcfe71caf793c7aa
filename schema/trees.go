package schema

import (
	"slices"

	"bobbinet/api"
)

// tooMany stands for every number of nodes above MaxNodes, and for that of trees that have no end.
const tooMany = api.MaxNodes + 1

// sizesOf returns the number of nodes of a smallest tree of each type, or tooMany.
func sizesOf(autos []api.Auto) []int {
	sizes := slices.Repeat([]int{tooMany}, len(autos))
	for isSmaller := true; isSmaller; {
		isSmaller = false
		for t, a := range autos {
			size := 1 + restsOf(a, sizes)[0]
			if size < sizes[t] {
				sizes[t], isSmaller = size, true
			}
		}
	}
	return sizes
}

// restsOf returns, for each state, the number of nodes that the trees of the rest of a word have at least, or tooMany.
func restsOf(a api.Auto, sizes []int) []int {
	rests := slices.Repeat([]int{tooMany}, len(a.Next))
	for state, isFinal := range a.Final {
		if isFinal {
			rests[state] = 0
		}
	}
	for isSmaller := true; isSmaller; {
		isSmaller = false
		for state, row := range a.Next {
			for letter, next := range row {
				if next >= 0 && sizes[letter]+rests[next] < rests[state] {
					rests[state], isSmaller = sizes[letter]+rests[next], true
				}
			}
		}
	}
	return rests
}

// fill returns the tree that Fill returns for type t.
func (g grammar) fill(t int) api.Node {
	if g.types[t].Name == "" {
		return api.Node{Text: "x"}
	}
	n := api.Node{Name: g.types[t].Name}
	for _, part := range g.leastWord(t) {
		n.Parts = append(n.Parts, g.fill(part))
	}
	return n
}

// leastWord returns the lexicographically first one of the words of type t whose trees have the fewest nodes.
func (g grammar) leastWord(t int) []int {
	a := g.autos[t]
	rests := restsOf(a, g.sizes)
	var word []int
	// Each tree has nodes, so that nothing is left in final states only.
	for state := 0; rests[state] > 0; {
		for letter, next := range a.Next[state] {
			if next >= 0 && g.sizes[letter]+rests[next] == rests[state] {
				word = append(word, letter)
				state = next
				break
			}
		}
	}
	return word
}

// checkNode checks n and then its parts.
func (g grammar) checkNode(n api.Node) api.Errno {
	isUnknown := func(part api.Node) bool { return g.typeOf(part) < 0 }
	switch t := g.typeOf(n); {
	case t < 0:
		return api.ErrName
	case !hasForm(n, g.types[t]):
		return api.ErrForm
	case !slices.ContainsFunc(n.Parts, isUnknown) && !g.accepts(t, n.Parts):
		return api.ErrEmpty
	}
	for _, part := range n.Parts {
		if err := g.checkNode(part); err != api.OK {
			return err
		}
	}
	return api.OK
}

// typeOf returns the number of the type with the name of n, or -1.
func (g grammar) typeOf(n api.Node) int {
	hasName := func(t api.Type) bool { return t.Name == n.Name }
	return slices.IndexFunc(g.types, hasName)
}

// hasForm tells whether n, which has the name of t, is of that type but for its parts.
func hasForm(n api.Node, t api.Type) bool {
	if t.Name == "" {
		return n.Text != "" && len(n.Attrs) == 0 && len(n.Parts) == 0
	}
	return n.Text == "" && areAllowed(n.Attrs, t.Attrs)
}

// areAllowed tells whether the attributes have names of the list, each at most once.
func areAllowed(attrs []api.Attr, names []string) bool {
	for i, a := range attrs {
		hasSameName := func(earlier api.Attr) bool { return earlier.Name == a.Name }
		if !slices.Contains(names, a.Name) || slices.ContainsFunc(attrs[:i], hasSameName) {
			return false
		}
	}
	return true
}

// accepts tells whether the nodes, which have names of types, form a word of type t. There may be more of them than auto.Run takes.
func (g grammar) accepts(t int, nodes []api.Node) bool {
	a, state := g.autos[t], 0
	for _, n := range nodes {
		state = a.Next[state][g.typeOf(n)]
		if state < 0 {
			return false
		}
	}
	return a.Final[state]
}
