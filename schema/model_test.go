package schema_test

import (
	"fmt"
	"regexp"
	"slices"
	"strings"

	"bobbinet/api"
	"bobbinet/auto"
	"bobbinet/expr"
)

// In this file chapter 9 is written a second time: as a list of all that is wrong, as sizes of trees that get deeper, as least words that are put together from those of the parts of an expression, and as patterns.

var (
	namePattern = regexp.MustCompile(`^[a-z][-a-z0-9]{0,11}$`)
	rawNames    = []string{"script", "style", "textarea", "title"}
	voidNames   = []string{"br", "hr", "img", "input"}
)

// list collects errors.
type list []api.Errno

func (l *list) add(err api.Errno, when bool) {
	if when {
		*l = append(*l, err)
	}
}

// first returns the first error, or OK.
func (l list) first() api.Errno {
	if len(l) == 0 {
		return api.OK
	}
	return l[0]
}

// expectedError returns the error of Check.
func expectedError(l []api.Type) api.Errno {
	var all list
	all.add(api.ErrSize, len(l) < 1)
	all.add(api.ErrSize, len(l) > 8)
	if len(all) > 0 {
		return all.first()
	}
	text := -1
	for i, t := range l {
		if t.Name == "" {
			text = i
		}
	}
	for i := range l {
		addFailures(&all, l, i, text)
	}
	if len(all) == 0 {
		all.add(api.ErrEmpty, slices.Contains(expectedSizes(l), 0))
	}
	return all.first()
}

// addFailures adds what is wrong with the type at i.
func addFailures(all *list, l []api.Type, i, text int) {
	t := l[i]
	all.add(api.ErrName, t.Name != "" && !namePattern.MatchString(t.Name))
	for _, earlier := range l[:i] {
		all.add(api.ErrTwice, earlier.Name == t.Name)
	}
	all.add(api.ErrForm, i == text && t.Content != "")
	all.add(api.ErrForm, i == text && len(t.Attrs) > 0)
	all.add(api.ErrForm, slices.Contains(rawNames, t.Name))
	all.add(api.ErrForm, slices.Contains(voidNames, t.Name) && t.Content != "")
	for _, name := range t.Attrs {
		all.add(api.ErrName, !namePattern.MatchString(name))
	}
	all.add(api.ErrSize, len(t.Attrs) > 4)
	for j, name := range t.Attrs {
		all.add(api.ErrTwice, slices.Contains(t.Attrs[j+1:], name))
	}
	x, err := expr.Parse(t.Content)
	all.add(api.ErrForm, err != api.OK)
	if err != api.OK {
		return
	}
	_, err = auto.Make(x)
	all.add(api.ErrSize, err != api.OK)
	for letter := len(l); letter < 8; letter++ {
		all.add(api.ErrRange, strings.Contains(t.Content, "abcdefgh"[letter:][:1]))
	}
	all.add(api.ErrForm, edgesOf(x).pairs[[2]int{text, text}])
}

// edges are the letters that words begin and end with, and which stand side by side in them.
type edges struct {
	first, last map[int]bool
	pairs       map[[2]int]bool
	isEmptyWord bool
}

func edgesOf(x api.Expr) edges {
	all := edges{map[int]bool{}, map[int]bool{}, map[[2]int]bool{}, x.Kind == api.Seq}
	switch x.Kind {
	case api.One:
		all.first[x.Type], all.last[x.Type] = true, true
	case api.Seq:
		for _, part := range x.Parts {
			all = all.then(edgesOf(part))
		}
	case api.Alt:
		for _, part := range x.Parts {
			all = all.or(edgesOf(part))
		}
	default:
		all = edgesOf(x.Parts[0])
		if x.Kind != api.Opt {
			all = all.or(all.then(all))
		}
		all.isEmptyWord = all.isEmptyWord || x.Kind != api.Plus
	}
	return all
}

func union[K comparable](a, b map[K]bool) map[K]bool {
	all := map[K]bool{}
	for key := range a {
		all[key] = true
	}
	for key := range b {
		all[key] = true
	}
	return all
}

func (e edges) or(f edges) edges {
	return edges{union(e.first, f.first), union(e.last, f.last), union(e.pairs, f.pairs), e.isEmptyWord || f.isEmptyWord}
}

func (e edges) then(f edges) edges {
	all := edges{e.first, f.last, union(e.pairs, f.pairs), e.isEmptyWord && f.isEmptyWord}
	if e.isEmptyWord {
		all.first = union(e.first, f.first)
	}
	if f.isEmptyWord {
		all.last = union(e.last, f.last)
	}
	for left := range e.last {
		for right := range f.first {
			all.pairs[[2]int{left, right}] = true
		}
	}
	return all
}

// endless is more nodes than any tree has that is looked for.
const endless = 1 << 40

// expectedSizes returns the number of nodes of a smallest tree of each type, or 0 if there is no tree with at most MaxNodes nodes.
func expectedSizes(l []api.Type) []int {
	sizes := slices.Repeat([]int{endless}, len(l))
	// Each time the trees may be one level deeper. In a smallest tree no type is within itself.
	for range l {
		var deeper []int
		for _, t := range l {
			sum, _ := leastWord(parsed(t.Content), sizes)
			deeper = append(deeper, min(1+sum, endless))
		}
		sizes = deeper
	}
	for t, size := range sizes {
		if size > 150 {
			sizes[t] = 0
		}
	}
	return sizes
}

func parsed(content string) api.Expr {
	x, err := expr.Parse(content)
	if err != api.OK {
		panic(fmt.Sprintf("Parse(%q) = %v", content, err))
	}
	return x
}

// leastWord returns the number of nodes that the trees of a word of x have at least, and the lexicographically first one of these words. None of them begins with another one, and so the first word of a Seq has the first words of its parts.
func leastWord(x api.Expr, sizes []int) (int, []int) {
	switch x.Kind {
	case api.One:
		return sizes[x.Type], []int{x.Type}
	case api.Seq:
		sum, word := 0, []int(nil)
		for _, part := range x.Parts {
			size, piece := leastWord(part, sizes)
			sum, word = sum+size, slices.Concat(word, piece)
		}
		return sum, word
	case api.Alt:
		sum, word := leastWord(x.Parts[0], sizes)
		for _, part := range x.Parts[1:] {
			size, other := leastWord(part, sizes)
			if size < sum || size == sum && slices.Compare(other, word) < 0 {
				sum, word = size, other
			}
		}
		return sum, word
	case api.Plus:
		return leastWord(x.Parts[0], sizes)
	}
	return 0, nil
}

// expectedFill returns the tree of Fill for a valid schema with these sizes.
func expectedFill(l []api.Type, sizes []int, t int) api.Node {
	if l[t].Name == "" {
		return text("x")
	}
	n := element(l[t].Name)
	_, word := leastWord(parsed(l[t].Content), sizes)
	for _, letter := range word {
		n.Parts = append(n.Parts, expectedFill(l, sizes, letter))
	}
	return n
}

// pattern returns what matches the words of a content, written with letters.
func pattern(content string) *regexp.Regexp {
	var write func(x api.Expr) string
	write = func(x api.Expr) string {
		var parts []string
		for _, part := range x.Parts {
			parts = append(parts, "(?:"+write(part)+")")
		}
		switch x.Kind {
		case api.One:
			return "abcdefgh"[x.Type:][:1]
		case api.Alt:
			return strings.Join(parts, "|")
		}
		return strings.Join(parts, "") + map[int]string{api.Star: "*", api.Plus: "+", api.Opt: "?"}[x.Kind]
	}
	return regexp.MustCompile("^(?:" + write(parsed(content)) + ")$")
}

// model is what a valid schema needs for checking trees.
type model struct {
	types    []api.Type
	patterns []*regexp.Regexp
}

func modelOf(l []api.Type) model {
	m := model{types: l}
	for _, t := range l {
		m.patterns = append(m.patterns, pattern(t.Content))
	}
	return m
}

func (m model) typeOf(n api.Node) int {
	for t := range m.types {
		if m.types[t].Name == n.Name {
			return t
		}
	}
	return -1
}

// expectedValid returns the error of Valid.
func (m model) expectedValid(n api.Node) api.Errno {
	if n.Name != m.types[0].Name {
		return api.ErrName
	}
	var all list
	m.addInvalid(&all, n)
	return all.first()
}

// addInvalid adds what is wrong with n and then with its parts.
func (m model) addInvalid(all *list, n api.Node) {
	t := m.typeOf(n)
	all.add(api.ErrName, t < 0)
	if t < 0 {
		return
	}
	isText := n.Name == ""
	all.add(api.ErrForm, isText && len(n.Attrs) > 0)
	all.add(api.ErrForm, isText && len(n.Parts) > 0)
	all.add(api.ErrForm, isText == (n.Text == ""))
	seen := map[string]bool{}
	for _, a := range n.Attrs {
		all.add(api.ErrForm, seen[a.Name])
		all.add(api.ErrForm, !slices.Contains(m.types[t].Attrs, a.Name))
		seen[a.Name] = true
	}
	// A byte that is no letter stands for a part of no type.
	var word []byte
	for _, part := range n.Parts {
		word = append(word, byte('a'+m.typeOf(part)))
	}
	areKnown := !slices.Contains(word, 'a'-1)
	all.add(api.ErrEmpty, !isText && areKnown && !m.patterns[t].Match(word))
	for _, part := range n.Parts {
		m.addInvalid(all, part)
	}
}
