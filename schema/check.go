package schema

import (
	"slices"

	"bobbinet/api"
	"bobbinet/auto"
	"bobbinet/emit"
	"bobbinet/expr"
)

// grammar is a valid schema, and what its functions need of it.
type grammar struct {
	types []api.Type
	autos []api.Auto // of the contents
	sizes []int      // of the smallest trees
}

// read returns the grammar of a schema, or the error of Check.
func read(l []api.Type) (grammar, api.Errno) {
	if len(l) < 1 || len(l) > api.MaxTypes {
		return grammar{}, api.ErrSize
	}
	g := grammar{types: l}
	for i := range l {
		if err := checkNames(l, i); err != api.OK {
			return grammar{}, err
		}
		a, err := readContent(l, i)
		if err != api.OK {
			return grammar{}, err
		}
		g.autos = append(g.autos, a)
	}
	g.sizes = sizesOf(g.autos)
	if slices.Contains(g.sizes, tooMany) {
		return grammar{}, api.ErrEmpty
	}
	return g, api.OK
}

// checkNames checks all of the type at i but what its content means.
func checkNames(l []api.Type, i int) api.Errno {
	t := l[i]
	hasSameName := func(earlier api.Type) bool { return earlier.Name == t.Name }
	switch {
	case t.Name != "" && !isName(t.Name):
		return api.ErrName
	case slices.ContainsFunc(l[:i], hasSameName):
		return api.ErrTwice
	case i == textOf(l) && (t.Content != "" || len(t.Attrs) > 0):
		return api.ErrForm
	case isRaw(t.Name), isVoid(t.Name) && t.Content != "":
		return api.ErrForm
	}
	return checkAttrs(t.Attrs)
}

// textOf returns the number of the text type, or -1. Of several ones, which are an error as soon as the second one is checked, it is the last.
func textOf(l []api.Type) int {
	for i, t := range slices.Backward(l) {
		if t.Name == "" {
			return i
		}
	}
	return -1
}

func isName(s string) bool {
	return emit.Check([]api.Token{{Kind: api.End, Name: s}}) == api.OK
}

// isRaw tells whether the tokenizer reads what is in an element with this name as text.
func isRaw(name string) bool {
	// Such a Start alone has not the form of a token.
	return emit.Check([]api.Token{{Kind: api.Start, Name: name}}) == api.ErrForm
}

// isVoid tells whether elements with this name have no parts and no end tag.
func isVoid(name string) bool {
	switch name {
	case "br", "hr", "img", "input":
		return true
	}
	return false
}

// checkAttrs checks the names that the attributes of a type may have. All of them may be in one tag.
func checkAttrs(names []string) api.Errno {
	start := api.Token{Kind: api.Start, Name: "p"}
	for _, name := range names {
		start.Attrs = append(start.Attrs, api.Attr{Name: name})
	}
	return emit.Check([]api.Token{start})
}

// readContent returns the automaton of the content of the type at i.
func readContent(l []api.Type, i int) (api.Auto, api.Errno) {
	x, err := expr.Parse(l[i].Content)
	if err != api.OK {
		return api.Auto{}, api.ErrForm
	}
	a, err := auto.Make(x)
	if err != api.OK {
		return api.Auto{}, err
	}
	// A canonical automaton has no successor that no word that it accepts leads to.
	isState := func(s int) bool { return s >= 0 }
	hasNoType := func(row []int) bool { return slices.ContainsFunc(row[len(l):], isState) }
	text := textOf(l)
	hasTexts := func(row []int) bool {
		return text >= 0 && isState(row[text]) && isState(a.Next[row[text]][text])
	}
	switch {
	case slices.ContainsFunc(a.Next, hasNoType):
		return api.Auto{}, api.ErrRange
	case slices.ContainsFunc(a.Next, hasTexts):
		return api.Auto{}, api.ErrForm
	}
	return a, api.OK
}
