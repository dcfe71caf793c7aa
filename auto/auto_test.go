package auto_test

import (
	"fmt"
	"math"
	"math/rand"
	"slices"
	"strconv"
	"strings"
	"testing"

	"bobbinet/api"
	"bobbinet/auto"
	"bobbinet/expr"
)

// none stands for no letter in an edge.
const none = -1

// parsed returns the expression with the text.
func parsed(text string) api.Expr {
	x, err := expr.Parse(text)
	if err != api.OK {
		panic(fmt.Sprintf("Parse(%q) = %v", text, err))
	}
	return x
}

// made returns the automaton of the expression with the text.
func made(t *testing.T, text string) api.Auto {
	t.Helper()
	a, err := auto.Make(parsed(text))
	if err != api.OK {
		t.Fatalf("Make(%q) = %v", text, err)
	}
	return a
}

// built reads an automaton, a word for each state: "a1b0!" is a state that a leads from to state 1 and b to state 0, and which is final; "-" is one without anything.
func built(text string) api.Auto {
	var a api.Auto
	for _, word := range strings.Fields(text) {
		row := slices.Repeat([]int{-1}, api.MaxTypes)
		rest, isFinal := strings.CutSuffix(strings.TrimPrefix(word, "-"), "!")
		for rest != "" {
			letter := int(rest[0] - 'a')
			digits := rest[1:]
			rest = strings.TrimLeft(digits, "0123456789")
			row[letter], _ = strconv.Atoi(strings.TrimSuffix(digits, rest))
		}
		a.Next = append(a.Next, row)
		a.Final = append(a.Final, isFinal)
	}
	return a
}

// written is the text that built reads.
func written(a api.Auto) string {
	if !auto.May(a) {
		return fmt.Sprintf("%.400s", fmt.Sprintf("not valid: %v", a))
	}
	var words []string
	for s, row := range a.Next {
		word := ""
		for letter, next := range row {
			if next >= 0 {
				word += "abcdefgh"[letter:][:1] + strconv.Itoa(next)
			}
		}
		if a.Final[s] {
			word += "!"
		}
		if word == "" {
			word = "-"
		}
		words = append(words, word)
	}
	return strings.Join(words, " ")
}

// chain returns an automaton with so many states, from each of which a leads to the next; the last one is final.
func chain(states int) api.Auto {
	a := cycle(states)
	a.Next[states-1][0] = -1
	a.Final[0], a.Final[states-1] = false, true
	return a
}

// cycle returns an automaton that accepts so many letters a, as often as one likes.
func cycle(states int) api.Auto {
	var a api.Auto
	for s := range states {
		row := slices.Repeat([]int{-1}, api.MaxTypes)
		row[0] = (s + 1) % states
		a.Next = append(a.Next, row)
		a.Final = append(a.Final, s == 0)
	}
	return a
}

func clone(a api.Auto) api.Auto {
	b := api.Auto{Final: slices.Clone(a.Final)}
	for _, row := range a.Next {
		b.Next = append(b.Next, slices.Clone(row))
	}
	return b
}

func same(a, b api.Auto) bool {
	return slices.EqualFunc(a.Next, b.Next, slices.Equal) && slices.Equal(a.Final, b.Final)
}

func isZero(a api.Auto) bool {
	return len(a.Next) == 0 && len(a.Final) == 0
}

// every calls f with each list of at most so many of the pieces, the shorter ones first.
func every[T any](pieces []T, most int, f func(l []T)) {
	lists := [][]T{nil}
	for long := 0; ; long++ {
		for _, l := range lists {
			f(l)
		}
		if long == most {
			return
		}
		var longer [][]T
		for _, l := range lists {
			for _, piece := range pieces {
				longer = append(longer, append(slices.Clip(l), piece))
			}
		}
		lists = longer
	}
}

// letters returns the word that a text of letters is.
func letters(s string) []int {
	var word []int
	for i := range len(s) {
		word = append(word, int(s[i]-'a'))
	}
	return word
}

// Below, chapter 8 is written a second time: by graphs in which a letter may lead to many states. If a graph is turned around and made deterministic, and that twice, the result is the minimal automaton.

// edge leads from a state to another one, with a letter or none.
type edge struct {
	from, letter, to int
}

type graph struct {
	states         int
	edges          []edge
	starts, finals []int
}

func (g *graph) state() int {
	g.states++
	return g.states - 1
}

func (g *graph) link(from, letter, to int) {
	g.edges = append(g.edges, edge{from, letter, to})
}

// add puts the words of x between two states.
func (g *graph) add(x api.Expr, from, to int) {
	switch x.Kind {
	case api.One:
		g.link(from, x.Type, to)
	case api.Seq:
		for _, part := range x.Parts {
			next := g.state()
			g.add(part, from, next)
			from = next
		}
		g.link(from, none, to)
	case api.Alt:
		for _, part := range x.Parts {
			g.add(part, from, to)
		}
	default:
		first, last := g.state(), g.state()
		g.link(from, none, first)
		g.add(x.Parts[0], first, last)
		g.link(last, none, to)
		if x.Kind != api.Plus {
			g.link(from, none, to)
		}
		if x.Kind != api.Opt {
			g.link(last, none, first)
		}
	}
}

func graphOfExpr(x api.Expr) graph {
	g := graph{states: 2, starts: []int{0}, finals: []int{1}}
	g.add(x, 0, 1)
	return g
}

func graphOfAuto(a api.Auto) graph {
	g := graph{states: len(a.Next), starts: []int{0}}
	for s, row := range a.Next {
		for letter, next := range row {
			if next >= 0 {
				g.link(s, letter, next)
			}
		}
		if a.Final[s] {
			g.finals = append(g.finals, s)
		}
	}
	return g
}

// graphOfBoth has a state for each two states of the automata.
func graphOfBoth(a, b api.Auto) graph {
	number := func(s, t int) int { return s*len(b.Next) + t }
	g := graph{states: len(a.Next) * len(b.Next), starts: []int{0}}
	for s, row := range a.Next {
		for t, other := range b.Next {
			for letter := range row {
				if row[letter] >= 0 && other[letter] >= 0 {
					g.link(number(s, t), letter, number(row[letter], other[letter]))
				}
			}
			if a.Final[s] && b.Final[t] {
				g.finals = append(g.finals, number(s, t))
			}
		}
	}
	return g
}

func turned(g graph) graph {
	around := graph{states: g.states, starts: g.finals, finals: g.starts}
	for _, e := range g.edges {
		around.link(e.to, e.letter, e.from)
	}
	return around
}

// out returns the edges that leave each state.
func (g graph) out() [][]edge {
	l := make([][]edge, g.states)
	for _, e := range g.edges {
		l[e.from] = append(l[e.from], e)
	}
	return l
}

// closed adds to the states all that no letter leads to, and sorts them.
func closed(out [][]edge, states []int) []int {
	all := slices.Clone(states)
	for i := 0; i < len(all); i++ {
		for _, e := range out[all[i]] {
			if e.letter == none && !slices.Contains(all, e.to) {
				all = append(all, e.to)
			}
		}
	}
	slices.Sort(all)
	return slices.Compact(all)
}

// deterministic returns the graph of the sets of states, numbered breadth first.
func deterministic(g graph) graph {
	out := g.out()
	d := graph{states: 1, starts: []int{0}}
	sets := [][]int{closed(out, g.starts)}
	numbers := map[string]int{fmt.Sprint(sets[0]): 0}
	for n := 0; n < len(sets); n++ {
		var after [api.MaxTypes][]int
		isFinal := false
		for _, s := range sets[n] {
			isFinal = isFinal || slices.Contains(g.finals, s)
			for _, e := range out[s] {
				if e.letter != none {
					after[e.letter] = append(after[e.letter], e.to)
				}
			}
		}
		if isFinal {
			d.finals = append(d.finals, n)
		}
		for letter, set := range after {
			if len(set) == 0 {
				continue
			}
			set = closed(out, set)
			number, isKnown := numbers[fmt.Sprint(set)]
			if !isKnown {
				number = d.state()
				numbers[fmt.Sprint(set)] = number
				sets = append(sets, set)
			}
			d.link(n, letter, number)
		}
	}
	return d
}

// expected returns the canonical automaton of a graph, or ErrSize.
func expected(g graph) (api.Auto, api.Errno) {
	g = deterministic(turned(deterministic(turned(g))))
	if g.states > api.MaxStates {
		return api.Auto{}, api.ErrSize
	}
	var a api.Auto
	for s := range g.states {
		a.Next = append(a.Next, slices.Repeat([]int{-1}, api.MaxTypes))
		a.Final = append(a.Final, slices.Contains(g.finals, s))
	}
	for _, e := range g.edges {
		a.Next[e.from][e.letter] = e.to
	}
	return a, api.OK
}

// takes tells whether a accepts the word.
func takes(a api.Auto, word []int) bool {
	state := 0
	for _, letter := range word {
		state = a.Next[state][letter]
		if state < 0 {
			return false
		}
	}
	return a.Final[state]
}

// checkCanonical looks for all that the definition of a canonical automaton asks for.
func checkCanonical(t *testing.T, what string, a api.Auto) {
	t.Helper()
	if !auto.May(a) {
		t.Errorf("%s is not valid: %v", what, a)
		return
	}
	// differ holds the pairs of states that a word tells apart; -1 is a state from which no word is accepted.
	states := len(a.Next)
	differ := map[[2]int]bool{}
	follow := func(s, letter int) int {
		if s < 0 {
			return -1
		}
		return a.Next[s][letter]
	}
	for isNew := true; isNew; {
		isNew = false
		for s := -1; s < states; s++ {
			for r := -1; r < states; r++ {
				is := (s >= 0 && a.Final[s]) != (r >= 0 && a.Final[r])
				for letter := range api.MaxTypes {
					is = is || differ[[2]int{follow(s, letter), follow(r, letter)}]
				}
				if is && !differ[[2]int{s, r}] {
					differ[[2]int{s, r}], isNew = true, true
				}
			}
		}
	}
	for s := range states {
		for r := -1; r < s; r++ {
			if !differ[[2]int{s, r}] && states > 1 {
				t.Errorf("%s has states %d and %d that accept the same words: %s", what, s, r, written(a))
			}
		}
	}
	if states == 1 && !a.Final[0] && written(a) != "-" {
		t.Errorf("%s accepts no words and has successors: %s", what, written(a))
	}
	order := []int{0}
	for i := 0; i < len(order); i++ {
		for _, next := range a.Next[order[i]] {
			if next >= 0 && !slices.Contains(order, next) {
				order = append(order, next)
			}
		}
	}
	if len(order) != states || !slices.IsSorted(order) {
		t.Errorf("%s has its states reached in the order %v: %s", what, order, written(a))
	}
}

// checkMake compares Make with what is written above.
func checkMake(t *testing.T, x api.Expr) {
	t.Helper()
	text, err := expr.Print(x)
	if err != api.OK {
		t.Fatalf("Print(%v) = %v", x, err)
	}
	want, wantErr := expected(graphOfExpr(x))
	got, err := auto.Make(x)
	if err != wantErr || !same(got, want) {
		t.Errorf("Make(%q) = %s, %v, want %s, %v", text, written(got), err, written(want), wantErr)
	}
}

// checkMade compares Make with an automaton written in the test, too.
func checkMade(t *testing.T, text, want string) {
	t.Helper()
	if got := made(t, text); written(got) != want {
		t.Errorf("Make(%q) = %s, want %s", text, written(got), want)
	} else {
		checkCanonical(t, text, got)
	}
	checkMake(t, parsed(text))
}

func checkNotMade(t *testing.T, want api.Errno, x api.Expr) {
	t.Helper()
	if a, err := auto.Make(x); err != want || !isZero(a) {
		t.Errorf("Make(%.200s) = %s, %v, want %v", fmt.Sprint(x), written(a), err, want)
	}
}

func checkMay(t *testing.T, want bool, a api.Auto) {
	t.Helper()
	if got := auto.May(a); got != want {
		t.Errorf("May(%.400s) = %v, want %v", fmt.Sprint(a), got, want)
	}
	if !want {
		checkInvalid(t, a)
	}
}

// checkInvalid tells each function that a is not valid, with other errors there, too.
func checkInvalid(t *testing.T, a api.Auto) {
	t.Helper()
	check := func(what string, isZero bool, err api.Errno) {
		t.Helper()
		if !isZero || err != api.ErrForm {
			t.Errorf("%s of %.400s: %v, or a result beside the error, want %v", what, fmt.Sprint(a), err, api.ErrForm)
		}
	}
	for _, word := range [][]int{nil, {0}, {-1}, {8}, make([]int, api.MaxWord+1)} {
		state, err := auto.Run(a, word)
		check("Run", state == 0, err)
	}
	for _, long := range []int{0, 1, 12, 13, -1} {
		n, err := auto.Count(a, long)
		check("Count", n == 0, err)
	}
	word, err := auto.Least(a)
	check("Least", len(word) == 0, err)
	for _, other := range []api.Auto{built("-"), built("a0!"), cycle(40), a} {
		for _, pair := range [][2]api.Auto{{a, other}, {other, a}} {
			is, err := auto.Same(pair[0], pair[1])
			check("Same", !is, err)
			both, err := auto.Both(pair[0], pair[1])
			check("Both", isZero(both), err)
		}
	}
}

func checkRun(t *testing.T, want int, a api.Auto, word []int) {
	t.Helper()
	if got, err := auto.Run(a, word); got != want || err != api.OK {
		t.Errorf("Run(%s, %v) = %d, %v, want %d", written(a), word, got, err, want)
	}
}

// checkSame compares Same, both ways around, with canonical automata.
func checkSame(t *testing.T, want bool, a, b api.Auto) {
	t.Helper()
	for _, pair := range [][2]api.Auto{{a, b}, {b, a}} {
		if got, err := auto.Same(pair[0], pair[1]); got != want || err != api.OK {
			t.Errorf("Same(%s, %s) = %v, %v, want %v", written(pair[0]), written(pair[1]), got, err, want)
		}
	}
}

// checkBoth compares Both, both ways around, with what is written above.
func checkBoth(t *testing.T, a, b api.Auto) {
	t.Helper()
	want, wantErr := expected(graphOfBoth(a, b))
	for _, pair := range [][2]api.Auto{{a, b}, {b, a}} {
		if got, err := auto.Both(pair[0], pair[1]); err != wantErr || !same(got, want) {
			t.Errorf("Both(%s, %s) = %s, %v, want %s, %v", written(pair[0]), written(pair[1]), written(got), err, written(want), wantErr)
		}
	}
}

// checkCommon compares Both with an automaton written in the test, too.
func checkCommon(t *testing.T, want string, a, b api.Auto) {
	t.Helper()
	got, err := auto.Both(a, b)
	if err != api.OK || written(got) != want {
		t.Errorf("Both(%s, %s) = %s, %v, want %s", written(a), written(b), written(got), err, want)
	} else {
		checkCanonical(t, "Both", got)
	}
	checkBoth(t, a, b)
}

func checkCount(t *testing.T, want int, a api.Auto, long int) {
	t.Helper()
	if got, err := auto.Count(a, long); got != want || err != api.OK {
		t.Errorf("Count(%s, %d) = %d, %v, want %d", written(a), long, got, err, want)
	}
}

func checkLeast(t *testing.T, want []int, a api.Auto) {
	t.Helper()
	if got, err := auto.Least(a); err != api.OK || !slices.Equal(got, want) {
		t.Errorf("Least(%s) = %v, %v, want %v", written(a), got, err, want)
	}
}

func checkNoLeast(t *testing.T, a api.Auto) {
	t.Helper()
	if got, err := auto.Least(a); err != api.ErrNone || len(got) > 0 {
		t.Errorf("Least(%s) = %v, %v, want %v", written(a), got, err, api.ErrNone)
	}
}

// small calls f with all automata with so many states over two letters, the first one and the last one.
func small(states int, f func(a api.Auto)) {
	var rows [][]int
	for next := range (states + 1) * (states + 1) {
		row := slices.Repeat([]int{-1}, api.MaxTypes)
		row[0], row[api.MaxTypes-1] = next%(states+1)-1, next/(states+1)-1
		rows = append(rows, row)
	}
	every(rows, states, func(l [][]int) {
		if len(l) != states {
			return
		}
		for bits := range 1 << states {
			a := api.Auto{Next: l}
			for s := range states {
				a.Final = append(a.Final, bits>>s&1 == 1)
			}
			f(a)
		}
	})
}

// exprs returns all valid expressions with at most so many nodes.
func exprs(nodes int, letters ...int) []api.Expr {
	bySize := make([][]api.Expr, nodes+1)
	var lists func(size int) [][]api.Expr
	lists = func(size int) [][]api.Expr {
		all := [][]api.Expr{}
		if size == 0 {
			return append(all, nil)
		}
		for first := 1; first <= size; first++ {
			for _, x := range bySize[first] {
				for _, rest := range lists(size - first) {
					all = append(all, slices.Concat([]api.Expr{x}, rest))
				}
			}
		}
		return all
	}
	for size := 1; size <= nodes; size++ {
		var candidates []api.Expr
		for _, letter := range letters {
			candidates = append(candidates, api.Expr{Kind: api.One, Type: letter})
		}
		for _, parts := range lists(size - 1) {
			for kind := api.Seq; kind <= api.Opt; kind++ {
				candidates = append(candidates, api.Expr{Kind: kind, Parts: parts})
			}
		}
		for _, x := range candidates {
			if nodesOf(x) == size && expr.Check(x) == api.OK {
				bySize[size] = append(bySize[size], x)
			}
		}
	}
	return slices.Concat(bySize...)
}

func nodesOf(x api.Expr) int {
	n := 1
	for _, part := range x.Parts {
		n += nodesOf(part)
	}
	return n
}

// randomText returns a text of an expression of about so many nodes.
func randomText(r *rand.Rand, nodes, letters int) string {
	if nodes <= 1 {
		return "abcdefgh"[r.Intn(letters):][:1]
	}
	part := func(size int) string { return randomText(r, size, letters) }
	first := 1 + r.Intn(nodes-1)
	switch r.Intn(7) {
	case 0:
		return "(" + part(nodes-1) + ")*"
	case 1:
		return "(" + part(nodes-1) + ")+"
	case 2:
		return "(" + part(nodes-1) + ")?"
	case 3, 4:
		return "(" + part(first) + "|" + part(nodes-first) + ")"
	}
	return part(first) + part(nodes-first)
}

// randomExpr returns a valid expression.
func randomExpr(r *rand.Rand, nodes, letters int) api.Expr {
	for {
		if x, err := expr.Parse(randomText(r, nodes, letters)); err == api.OK {
			return x
		}
	}
}

// randomAuto returns a valid automaton.
func randomAuto(r *rand.Rand, states, letters int) api.Auto {
	a := cycle(states)
	for s, row := range a.Next {
		for letter := range letters {
			row[letter] = max(-1, r.Intn(states+2)-2)
		}
		a.Final[s] = r.Intn(3) == 0
	}
	return a
}

// P8.1
func TestMay(t *testing.T) {
	checkMay(t, true, built("-"))
	checkMay(t, true, built("!"))
	checkMay(t, true, built("a0"))
	checkMay(t, true, built("a0b0c0d0e0f0g0h0!"))
	checkMay(t, true, built("- - -"))
	checkMay(t, true, built("a2 h0! b1"))
	checkMay(t, true, chain(2))
	checkMay(t, true, chain(39))
	checkMay(t, true, chain(api.MaxStates))
	checkMay(t, true, cycle(api.MaxStates))
	checkMay(t, false, chain(api.MaxStates+1))
	checkMay(t, false, cycle(api.MaxStates+1))
	checkMay(t, false, cycle(1000))
	checkMay(t, false, api.Auto{})
	checkMay(t, false, api.Auto{Next: [][]int{}, Final: []bool{}})
	checkMay(t, false, api.Auto{Final: []bool{true}})
	checkMay(t, false, api.Auto{Next: [][]int{nil}, Final: []bool{true}})
	checkMay(t, false, api.Auto{Next: [][]int{{}}, Final: []bool{true}})
	checkMay(t, false, api.Auto{Next: make([][]int, 1<<20), Final: make([]bool, 1<<20)})
	checkMay(t, false, api.Auto{Next: [][]int{make([]int, 1<<20)}, Final: []bool{true}})
}

// P8.1
func TestMayFinal(t *testing.T) {
	for states := 1; states <= api.MaxStates; states++ {
		for _, more := range []int{-states, -1, 1, 2, 1 << 16} {
			a := cycle(states)
			a.Final = make([]bool, states+more)
			checkMay(t, false, a)
		}
	}
}

// P8.1
func TestMayRows(t *testing.T) {
	for states := 1; states <= 5; states++ {
		for s := range states {
			for _, long := range []int{0, 1, api.MaxTypes - 1, api.MaxTypes + 1, 2 * api.MaxTypes, 1 << 16} {
				a := cycle(states)
				a.Next[s] = make([]int, long)
				checkMay(t, false, a)
			}
			// The space behind a list is no part of it.
			a := cycle(states)
			a.Next[s] = slices.Concat(a.Next[s], []int{0})[:api.MaxTypes-1]
			checkMay(t, false, a)
		}
	}
}

// P8.1
func TestMaySuccessors(t *testing.T) {
	for _, states := range []int{1, 2, 3, 39, api.MaxStates} {
		for _, s := range []int{0, states / 2, states - 1} {
			for letter := range api.MaxTypes {
				for _, next := range []int{math.MinInt, -1 << 32, -2, -1, 0, 1, states - 1, states, states + 1, 40, 41, 1 << 32, math.MaxInt} {
					a := cycle(states)
					a.Next[s][letter] = next
					checkMay(t, next >= -1 && next < states, a)
				}
			}
		}
	}
}

// P8.2
func TestMake(t *testing.T) {
	for _, row := range [][2]string{
		{"", "!"},
		{"()|()", "!"},
		{"()*", "!"},
		{"a", "a1 !"},
		{"h", "h1 !"},
		{"a*", "a0!"},
		{"a+", "a1 a1!"},
		{"a?", "a1! !"},
		{"a|", "a1! !"},
		{"a|a", "a1 !"},
		{"aa*", "a1 a1!"},
		{"a**", "a0!"},
		{"a+?", "a0!"},
		{"(a*)+", "a0!"},
		{"(a|)+", "a0!"},
		{"ab", "a1 b2 !"},
		{"a|b", "a1b1 !"},
		{"b|a", "a1b1 !"},
		{"b|ab", "a1b2 b2 !"},
		{"ba|ab", "a1b2 b3 a3 !"},
		{"bc|ad", "a1b2 d3 c3 !"},
		{"ca|bb|ac", "a1b2c3 c4 b4 a4 !"},
		{"a*b", "a0b1 !"},
		{"a*b*", "a0b1! b1!"},
		{"(a*b*)*", "a0b0!"},
		{"(ab)*", "a1! b0"},
		{"(ab)+", "a1 b2 a1!"},
		{"(ab)?", "a1! b2 !"},
		{"(ab|a)*", "a1! a1b0!"},
		{"a?a?a?", "a1! a2! a3! !"},
		{"a(b|c)*", "a1 b1c1!"},
		{"(b|c)+d?", "b1c1 b1c1d2! !"},
		{"(a|b)*a", "a1b0 a1b0!"},
		{"(a|b)*a(a|b)", "a1b0 a2b3 a2b3! a1b0!"},
		{"(a|b)*aa", "a1b0 a2b0 a2b0!"},
		{"(aa)*|(aaa)*", "a1! a2 a3! a4! a5! a0"},
		{"(aa|aaa)*", "a1! a2 a2!"},
		{"a(ba)*|(ab)*a", "a1 b0!"},
		{"c(a|b)|d(b|a)|g(a|c)", "c1d1g2 a3b3 a3c3 !"},
		{"a|b|c|d|e|f|g|h", "a1b1c1d1e1f1g1h1 !"},
		{"(a|b|c|d|e|f|g|h)*", "a0b0c0d0e0f0g0h0!"},
		{"hgfedcba", "h1 g2 f3 e4 d5 c6 b7 a8 !"},
		{"ah|bg|cf|de", "a1b2c3d4 h5 g5 f5 e5 !"},
		{"dh|cg|bf|ae", "a1b2c3d4 e5 f5 g5 h5 !"},
	} {
		checkMade(t, row[0], row[1])
	}
}

// P8.2: the automaton of many sets of places may have few states.
func TestMakeMinimal(t *testing.T) {
	checkMade(t, "(a|b)*|(a|b)*a(a|b)(a|b)(a|b)(a|b)(a|b)", "a0b0!")
	checkMade(t, "(aa)*|(aaa)*|(aaaaa)*|a*", "a0!")
	checkMade(t, "(aaa)*|(aaaaa)*|(aaaaaaa)*|(a|)(aa)*", "a0!")
	checkMade(t, "((((((a|b)?(a|b))?(a|b))?(a|b))?)*)*", "a0b0!")
	checkMade(t, "(a|aa|aaa|aaaa|aaaaa|aaaaaa)*", "a0!")
	checkMade(t, "b(a|aa|aaa|aaaa|aaaaa)*c", "b1 a1c2 !")
}

// P8.2
func TestMakeSize(t *testing.T) {
	times := strings.Repeat
	for _, text := range []string{
		times("a", 39), times("a", 38) + "a?", times("a", 38) + "a+", times("a", 38) + "a*", times("a?", 20), times("a+", 20),
		"(a|b)*a(a|b)(a|b)(a|b)(a|b)", "(aaaaa)*|(aaaaaaaa)*", "(" + times("a", 37) + ")*",
		times("b", 37) + "?" + "a", "(aaaaa)*b|(aaaaaaa)*b", "a" + times("*", 39), times("a|", 20), times("|", 40),
	} {
		if _, err := auto.Make(parsed(text)); err != api.OK {
			t.Errorf("Make(%q) = %v", text, err)
		}
		checkMake(t, parsed(text))
	}
	for _, text := range []string{
		times("a", 40), "abcdefgh" + times("hgfedcba", 4), "(a|b)*a(a|b)(a|b)(a|b)(a|b)(a|b)", "b((aaaaa)*|(aaaaaaaa)*)", "((aaaaa)*|(aaaaaaaa)*)b", "((aaaaa)*|(aaaaaaaa)*)b*",
		"(aaaaaa)*|(aaaaaaa)*", "(aaaaa)*|(aaaaaaaaa)*", "(aaa)*|(aaaa)*|(aaaaa)*", "(aa)*|(aaa)*|(aaaaa)*|(aaaaaaa)*",
	} {
		checkNotMade(t, api.ErrSize, parsed(text))
		checkMake(t, parsed(text))
	}
	if a := made(t, times("a", 39)); !same(a, chain(40)) {
		t.Errorf("Make(a 39 times) = %s", written(a))
	}
	for states, text := range map[int]string{32: "(a|b)*a(a|b)(a|b)(a|b)(a|b)", 40: "(aaaaa)*|(aaaaaaaa)*", 35: "(aaaaa)*|(aaaaaaa)*"} {
		if a := made(t, text); len(a.Next) != states {
			t.Errorf("Make(%q) has %d states, want %d", text, len(a.Next), states)
		}
	}
}

// P8.2: expressions with thousands of sets of places.
func TestMakeHard(t *testing.T) {
	for _, text := range []string{
		"(b*aaaaab?aaaaaa?)+ba*ba+ba*ba*ba+ba+ba+", "(aaaaaa?ab*a(ba+ba+ba+ba+b|ab?aaaa)a|b)+", "(aaaa(aaaaaa?|b)aaa)+ba+ba+ba+ba+ba+ba+b",
		"(a?b)+ba*ba*bab*ab*ab*ab*ab*ab*ab*ab*aba", "(ab?aaaa?b*aaa(aaa|ba+b)aab?aaaaab?aaa)+",
	} {
		checkNotMade(t, api.ErrSize, parsed(text))
	}
}

// P8.2
func TestMakeErrors(t *testing.T) {
	a := api.Expr{Kind: api.One}
	for _, x := range []api.Expr{
		{}, {Kind: -1}, {Kind: 7}, {Kind: math.MaxInt}, {Kind: math.MinInt}, {Kind: api.One, Type: 8}, {Kind: api.One, Type: -1}, {Kind: api.One, Type: math.MaxInt},
		{Kind: api.One, Parts: []api.Expr{a}}, {Kind: api.Star}, {Kind: api.Plus}, {Kind: api.Opt}, {Kind: api.Alt}, {Kind: api.Alt, Parts: []api.Expr{a}}, {Kind: api.Seq, Parts: []api.Expr{a}},
		{Kind: api.Star, Parts: []api.Expr{a, a}}, {Kind: api.Seq, Type: 1}, {Kind: api.Seq, Parts: []api.Expr{a, {}}}, {Kind: api.Star, Parts: []api.Expr{{Kind: api.One, Type: 8}}},
		{Kind: api.Seq, Parts: []api.Expr{a, {Kind: api.Seq}}}, {Kind: api.Alt, Parts: []api.Expr{a, {Kind: api.Alt, Parts: []api.Expr{a, a}}}},
		{Kind: api.Seq, Parts: slices.Repeat([]api.Expr{a}, 41)}, {Kind: api.Alt, Parts: slices.Repeat([]api.Expr{a}, 21)}, {Kind: api.Seq, Parts: slices.Repeat([]api.Expr{a}, 1<<20)},
		{Kind: api.Seq, Parts: append(slices.Repeat([]api.Expr{a}, 40), api.Expr{})}, {Kind: api.Seq, Parts: append(slices.Repeat([]api.Expr{a}, 40), api.Expr{Kind: api.One, Type: 8})},
	} {
		want := expr.Check(x)
		if want == api.OK {
			t.Errorf("Check(%.200s) = %v", fmt.Sprint(x), want)
		}
		checkNotMade(t, want, x)
	}
	deep := a
	for range 1 << 15 {
		deep = api.Expr{Kind: api.Star, Parts: []api.Expr{deep}}
	}
	checkNotMade(t, api.ErrSize, deep)
	checkNotMade(t, api.ErrKind, api.Expr{})
	checkNotMade(t, api.ErrForm, api.Expr{Kind: api.Seq, Parts: []api.Expr{a}})
	checkNotMade(t, api.ErrRange, api.Expr{Kind: api.One, Type: 8})
	checkNotMade(t, api.ErrSize, api.Expr{Kind: api.Seq, Parts: slices.Repeat([]api.Expr{a}, 41)})
}

// P8.2
func TestMakeEvery(t *testing.T) {
	var words [][]int
	every([]int{0, 1}, 5, func(word []int) { words = append(words, word) })
	for i, x := range exprs(6, 0, 1) {
		checkMake(t, x)
		if i%29 != 0 {
			continue
		}
		a, _ := auto.Make(x)
		text, _ := expr.Print(x)
		checkCanonical(t, text, a)
		for _, word := range words {
			if want, _ := expr.Match(x, word); takes(a, word) != want {
				t.Errorf("Make(%q) = %s, which does not read %v as the expression does", text, written(a), word)
			}
		}
	}
}

// P8.2
func TestMakeRandom(t *testing.T) {
	r := rand.New(rand.NewSource(1))
	for range 5000 {
		x := randomExpr(r, 2+r.Intn(14), 1+r.Intn(4))
		checkMake(t, x)
		a, err := auto.Make(x)
		if err != api.OK {
			continue
		}
		word := make([]int, r.Intn(12))
		for i := range word {
			word[i] = r.Intn(4)
		}
		if want, _ := expr.Match(x, word); takes(a, word) != want {
			t.Errorf("Make(%v) = %s, which does not read %v as the expression does", x, written(a), word)
		}
	}
}

// P8.2
func TestRun(t *testing.T) {
	a := built("a1h2 a2b0! h3 - c3!")
	for _, row := range []struct {
		word string
		want int
	}{
		{"", 0}, {"a", 1}, {"h", 2}, {"b", -1}, {"ab", 0}, {"aa", 2}, {"aah", 3}, {"hh", 3}, {"hha", -1}, {"ba", -1}, {"bah", -1}, {"abab", 0}, {"ababa", 1}, {"abah", -1},
		{strings.Repeat("ab", 20), 0}, {strings.Repeat("ab", 19) + "aa", 2}, {strings.Repeat("ab", 19) + "ac", -1}, {strings.Repeat("h", 40), -1},
	} {
		checkRun(t, row.want, a, letters(row.word))
	}
	checkRun(t, 0, built("-"), nil)
	checkRun(t, 0, built("!"), []int{})
	checkRun(t, -1, built("-"), []int{7})
	checkRun(t, 0, built("a0b0c0d0e0f0g0h0"), letters("abcdefghhgfedcba"))
	checkRun(t, 39, chain(40), make([]int, 39))
	checkRun(t, -1, chain(40), make([]int, 40))
	checkRun(t, 0, cycle(40), make([]int, 40))
	checkRun(t, 38, cycle(39), make([]int, 38))
	checkRun(t, 1, cycle(39), make([]int, 40))
}

// P8.2
func TestRunEvery(t *testing.T) {
	small(2, func(a api.Auto) {
		every([]int{0, 1, 7}, 4, func(word []int) {
			want := 0
			for _, letter := range word {
				if want >= 0 {
					want = a.Next[want][letter]
				}
			}
			checkRun(t, want, a, word)
		})
	})
}

// P8.2
func TestRunErrors(t *testing.T) {
	long := make([]int, api.MaxWord+1)
	badLong := slices.Clone(long)
	badLong[0] = 8
	badEnd := slices.Clone(long[1:])
	badEnd[api.MaxWord-1] = -1
	for _, row := range []struct {
		word []int
		want api.Errno
	}{
		{long[1:], api.OK}, {long, api.ErrSize}, {badLong, api.ErrSize}, {make([]int, 1<<20), api.ErrSize}, {badEnd, api.ErrRange}, {badLong[:40], api.ErrRange},
		{[]int{8}, api.ErrRange}, {[]int{-1}, api.ErrRange}, {[]int{0, 8}, api.ErrRange}, {[]int{1, 8}, api.ErrRange}, {[]int{1, -1}, api.ErrRange},
		{[]int{math.MinInt}, api.ErrRange}, {[]int{math.MaxInt}, api.ErrRange}, {[]int{1 << 32}, api.ErrRange}, {[]int{-1 << 32}, api.ErrRange}, {[]int{7}, api.OK},
	} {
		for _, a := range []api.Auto{built("a0"), built("-"), built("a0b0c0d0e0f0g0h0!"), chain(2), cycle(40)} {
			if state, err := auto.Run(a, row.word); err != row.want || err != api.OK && state != 0 {
				t.Errorf("Run(%s, %.200s) = %d, %v, want %v", written(a), fmt.Sprint(row.word), state, err, row.want)
			}
		}
	}
}

// P8.3
func TestSame(t *testing.T) {
	for _, row := range [][2]string{
		{"-", "-"}, {"-", "a0"}, {"-", "a1 -"}, {"-", "a1b0 c0"}, {"-", "- !"}, {"a1 !", "a2 - !"}, {"a1 !", "a1b2 ! -"}, {"a1 !", "a1h2 b2! a2b2c2"},
		{"a0!", "a1! a0!"}, {"a0!", "a1! a2! a0!"}, {"a0!", "a1! a1!"}, {"a1! a2! a0!", "a1! a0!"}, {"a1! a0", "a1! a2 a3! a0"}, {"a1b1 !", "a1b2 ! !"}, {"!", "! a0"},
	} {
		checkSame(t, true, built(row[0]), built(row[1]))
	}
	for _, row := range [][2]string{
		{"-", "!"}, {"-", "a0!"}, {"-", "a1 !"}, {"!", "a0!"}, {"!", "a1 !"}, {"a1 !", "b1 !"}, {"a1 !", "h1 !"}, {"a1 !", "a1! !"}, {"a1 !", "a1b1 !"}, {"a1 !", "a1 a2 !"}, {"a0!", "a1! a0"},
		{"a1! a0", "a1! a2 a0"}, {"g1 !", "h1 !"}, {"a0!", "a0h0!"}, {"a1! a2! !", "a1! a2! a2!"}, {"a1b2 c3 c3 !", "a1b2 c3 d3 !"},
	} {
		checkSame(t, false, built(row[0]), built(row[1]))
	}
	checkSame(t, true, made(t, "(a|b)*"), made(t, "(a*b*)*"))
	checkSame(t, false, made(t, "(a|b)*"), made(t, "(a*b+)*"))
	for _, a := range []api.Auto{cycle(40), cycle(39), chain(40), chain(39), built("-")} {
		checkSame(t, true, a, a)
		checkSame(t, true, a, clone(a))
	}
	checkSame(t, false, cycle(40), cycle(39))
	checkSame(t, false, cycle(20), cycle(40))
	checkSame(t, false, chain(40), chain(39))
	checkSame(t, false, chain(40), cycle(40))
	all, but := cycle(40), cycle(39)
	for s := range 39 {
		all.Final[s], but.Final[s] = true, true
	}
	checkSame(t, false, all, but)
	all.Final[39] = true
	checkSame(t, true, all, but)
	but.Final[38] = false
	checkSame(t, false, all, but)
}

// P8.3
func TestSameEvery(t *testing.T) {
	var all []api.Auto
	var languages []string
	collect := func(a api.Auto) {
		want, _ := expected(graphOfAuto(a))
		all = append(all, a)
		languages = append(languages, written(want))
	}
	small(1, collect)
	small(2, collect)
	for i, a := range all {
		for j, b := range all[:i+1] {
			checkSame(t, languages[i] == languages[j], a, b)
		}
	}
}

// P8.3
func TestBoth(t *testing.T) {
	for _, row := range [][3]string{
		{"a*", "b*", "!"}, {"a", "b", "-"}, {"a+", "b+", "-"}, {"(a|b)*", "a*", "a0!"}, {"(a|b)b+", "a(b|c)*", "a1 b2 b2!"}, {"(aa)*", "(aaa)*", "a1! a2 a3 a4 a5 a0"},
		{"(aa)*", "a(aa)*", "-"}, {"ab|ba", "(a|c)(b|c)", "a1 b2 !"}, {"ab|ba|cc", "cc|ba", "b1c2 a3 c3 !"}, {"a(b|c)d", "a(b|d)d", "a1 b2 d3 !"}, {"abc", "abd", "-"}, {"", "a*", "!"},
		{"", "a+", "-"}, {"(a|b)*a", "b(a|b)*", "b1 a2b1 a2b1!"}, {"(a|b)*a", "(a|b)*b", "-"}, {"a(b|c)*|d", "d(b|c)*|a", "a1d1 !"},
	} {
		checkCommon(t, row[2], made(t, row[0]), made(t, row[1]))
	}
	for _, row := range [][3]string{
		{"a0b1 !", "a0b1 !", "a0b1 !"}, {"a1b2! a1! a0!", "a0b0!", "a1b2! a1! a0!"}, {"a1 a2 a2", "a0!", "-"}, {"-", "-", "-"}, {"- a0!", "!", "-"}, {"! a0!", "! -", "!"},
		{"a1b2 c3 c3 !", "a1b2 c3 d3 !", "a1 c2 !"}, {"b2a1 b3 a3 !", "b1a2 a3 b3 !", "a1b2 b3 a3 !"}, {"a1 b1!", "a1 b0c0!", "a1 !"},
	} {
		checkCommon(t, row[2], built(row[0]), built(row[1]))
	}
}

// P8.3: only the result is limited.
func TestBothSize(t *testing.T) {
	for _, row := range []struct {
		a, b api.Auto
		want api.Errno
	}{
		{cycle(5), cycle(8), api.OK}, {cycle(4), cycle(9), api.OK}, {cycle(40), cycle(40), api.OK}, {cycle(40), cycle(20), api.OK}, {cycle(20), cycle(8), api.OK}, {cycle(1), cycle(40), api.OK}, {chain(40), cycle(39), api.OK}, {chain(40), chain(40), api.OK},
		{chain(40), chain(39), api.OK}, {chain(40), cycle(40), api.OK}, {chain(28), cycle(9), api.OK}, {cycle(40), built("!"), api.OK}, {cycle(40), built("-"), api.OK},
		{cycle(6), cycle(7), api.ErrSize}, {cycle(5), cycle(9), api.ErrSize}, {cycle(40), cycle(39), api.ErrSize}, {cycle(40), cycle(3), api.ErrSize}, {cycle(12), cycle(16), api.ErrSize},
	} {
		if _, err := auto.Both(row.a, row.b); err != row.want {
			t.Errorf("Both(%s, %s) = %v, want %v", written(row.a), written(row.b), err, row.want)
		}
		checkBoth(t, row.a, row.b)
	}
	// Of 1560 pairs of states nearly all, and then all, accept the same words.
	all, but := cycle(40), cycle(39)
	for s := range 39 {
		all.Final[s], but.Final[s] = true, true
	}
	checkBoth(t, all, but)
	all.Final[39] = true
	checkCommon(t, "a0!", all, but)
	clear(all.Final)
	checkCommon(t, "-", all, but)
	// A pair from which nothing is accepted does not count.
	back := chain(40)
	back.Next[39][1] = 0
	checkCommon(t, written(chain(40)), back, built("a0b1! -"))
	checkCommon(t, written(chain(40)), back, built("a0b1! a1"))
}

// P8.3
func TestBothEvery(t *testing.T) {
	byLanguage := map[string]api.Auto{}
	collect := func(a api.Auto) {
		want, _ := expected(graphOfAuto(a))
		byLanguage[written(want)] = a
	}
	small(1, collect)
	small(2, collect)
	for _, a := range byLanguage {
		for _, b := range byLanguage {
			checkBoth(t, a, b)
		}
	}
	any := built("a0b0c0d0e0f0g0h0!")
	i := 0
	small(3, func(a api.Auto) {
		if i++; i%3 != 0 {
			return
		}
		want, err := expected(graphOfAuto(a))
		if got, gotErr := auto.Both(a, any); gotErr != err || !same(got, want) {
			t.Errorf("Both(%s, %s) = %s, %v, want %s, %v", written(a), written(any), written(got), gotErr, written(want), err)
		}
	})
}

// P8.3
func TestBothRandom(t *testing.T) {
	r := rand.New(rand.NewSource(2))
	for range 1000 {
		used := 1 + r.Intn(3)
		a, b := randomAuto(r, 1+r.Intn(9), used), randomAuto(r, 1+r.Intn(9), used)
		checkBoth(t, a, b)
		both, err := auto.Both(a, b)
		if err != api.OK {
			continue
		}
		for range 20 {
			word := make([]int, r.Intn(8))
			for i := range word {
				word[i] = r.Intn(used)
			}
			if takes(both, word) != (takes(a, word) && takes(b, word)) {
				t.Errorf("Both(%s, %s) = %s, which does not read %v as they do", written(a), written(b), written(both), word)
			}
		}
	}
}

// P8.3
func TestCount(t *testing.T) {
	for _, row := range []struct {
		text string
		want []int
	}{
		{"", []int{1, 0, 0, 0, 0, 0, 0, 0, 0, 0, 0, 0, 0}},
		{"a", []int{0, 1, 0, 0, 0, 0, 0, 0, 0, 0, 0, 0, 0}},
		{"a?", []int{1, 1, 0, 0, 0, 0, 0, 0, 0, 0, 0, 0, 0}},
		{"a*", []int{1, 1, 1, 1, 1, 1, 1, 1, 1, 1, 1, 1, 1}},
		{"a|h", []int{0, 2, 0, 0, 0, 0, 0, 0, 0, 0, 0, 0, 0}},
		{"a|a|aa|aa", []int{0, 1, 1, 0, 0, 0, 0, 0, 0, 0, 0, 0, 0}},
		{"(a|b)*", []int{1, 2, 4, 8, 16, 32, 64, 128, 256, 512, 1024, 2048, 4096}},
		{"(a|bb)*", []int{1, 1, 2, 3, 5, 8, 13, 21, 34, 55, 89, 144, 233}},
		{"a(b|c)*", []int{0, 1, 2, 4, 8, 16, 32, 64, 128, 256, 512, 1024, 2048}},
		{"a*b*", []int{1, 2, 3, 4, 5, 6, 7, 8, 9, 10, 11, 12, 13}},
		{"aaaaaaaaaaaa", []int{0, 0, 0, 0, 0, 0, 0, 0, 0, 0, 0, 0, 1}},
		{"aaaaaaaaaaaaa", []int{0, 0, 0, 0, 0, 0, 0, 0, 0, 0, 0, 0, 0}},
		{"(a|b|c|d|e|f|g|h)*", []int{1, 8, 64, 512, 4096, 32768, 262144, 2097152, 16777216, 134217728, 1073741824, 8589934592, 68719476736}},
		{"(a|b|c|d|e|f|g|h)*h", []int{0, 1, 8, 64, 512, 4096, 32768, 262144, 2097152, 16777216, 134217728, 1073741824, 8589934592}},
	} {
		for long, want := range row.want {
			checkCount(t, want, made(t, row.text), long)
		}
	}
	for long := range 13 {
		checkCount(t, 0, built("-"), long)
		checkCount(t, 0, built("a1b1 a0b0 !"), long)
		checkCount(t, 0, chain(40), long)
		checkCount(t, 1<<long, built("a1b2! a2b0! a1b1!"), long)
	}
	checkCount(t, 1, chain(13), 12)
	checkCount(t, 0, chain(14), 12)
	checkCount(t, 1, cycle(12), 12)
}

// P8.3
func TestCountErrors(t *testing.T) {
	for _, a := range []api.Auto{built("-"), built("a0!"), cycle(40)} {
		for _, long := range []int{-1, -2, 13, 14, 40, math.MaxInt, math.MinInt, 1 << 32, -1 << 32} {
			if n, err := auto.Count(a, long); n != 0 || err != api.ErrRange {
				t.Errorf("Count(%s, %d) = %d, %v, want %v", written(a), long, n, err, api.ErrRange)
			}
		}
	}
}

// P8.3
func TestLeast(t *testing.T) {
	for _, row := range [][2]string{
		{"", ""}, {"a*", ""}, {"a", "a"}, {"h", "h"}, {"b|a", "a"}, {"aa|b", "b"}, {"ba|ab", "ab"}, {"ca|bb", "bb"}, {"ab|aa|b?a", "a"}, {"a+b", "ab"}, {"aaab|aac|bd", "bd"},
		{"aab|aba|baa", "aab"}, {"a(c|d)|a(b|e)", "ab"}, {"(ab|ba)+", "ab"}, {"c(b|a)|bh|bg", "bg"}, {"(a|b)*b(a|b)(a|b)", "baa"}, {"a*hhh|aaag", "hhh"}, {"a*hhh|aag", "aag"},
	} {
		checkLeast(t, letters(row[1]), made(t, row[0]))
	}
	for _, row := range [][2]string{
		{"a1b2 - !", "b"}, {"a0b1 !", "b"}, {"a1b2 a1 a3 !", "ba"}, {"a1b2 a3 c4 a4 !", "bc"}, {"b1a2 c3 c3 !", "ac"}, {"a1b3 b2 ! a2", "ab"}, {"h3g2 - - !", "h"}, {"! a0", ""}, {"a1! !", ""},
	} {
		checkLeast(t, letters(row[1]), built(row[0]))
	}
	checkLeast(t, make([]int, 39), chain(40))
	// The first letter leads to a state that is farther from the end than the state that the last letter leads to.
	far := chain(40)
	for s := range 38 {
		far.Next[s][0], far.Next[s][7] = 0, s+1
	}
	checkLeast(t, append(slices.Repeat([]int{7}, 38), 0), far)
}

// P8.3
func TestLeastNone(t *testing.T) {
	for _, text := range []string{"-", "a0", "a1 a0", "a1b1 a0b0 !", "- !", "a0b0c0d0e0f0g0h0", "a1 b2 c0 a4! !"} {
		checkNoLeast(t, built(text))
	}
	a := cycle(40)
	a.Final[0] = false
	checkNoLeast(t, a)
	both, _ := auto.Both(made(t, "a"), made(t, "b"))
	checkNoLeast(t, both)
}

// P8.3: the words are tried one after the other, the shorter ones first.
func TestCountLeastEvery(t *testing.T) {
	i := 0
	compare := func(a api.Auto) {
		if i++; i > 2000 && i%5 != 0 {
			return
		}
		counts := make([]int, 5)
		var least []int
		isNone := true
		every([]int{0, 3, 7}, len(counts)-1, func(word []int) {
			if !takes(a, word) {
				return
			}
			if isNone {
				isNone, least = false, word
			}
			counts[len(word)]++
		})
		for long, want := range counts {
			checkCount(t, want, a, long)
		}
		if isNone {
			checkNoLeast(t, a)
		} else {
			checkLeast(t, least, a)
		}
	}
	small(1, compare)
	small(2, compare)
	small(3, compare)
}

func TestLeavesItsLists(t *testing.T) {
	roomy := func(text string) api.Auto {
		a := built(text)
		for i := range a.Next {
			a.Next[i] = append(a.Next[i], 98, 99)[:api.MaxTypes]
		}
		a.Next = append(a.Next, []int{97})[:len(a.Next)]
		a.Final = append(a.Final, true, true, false)[:len(a.Final)]
		return a
	}
	whole := func(a api.Auto) string {
		var rows [][]int
		for _, row := range a.Next[:cap(a.Next)] {
			rows = append(rows, row[:cap(row)])
		}
		return fmt.Sprint(rows, a.Final[:cap(a.Final)])
	}
	for _, texts := range [][2]string{{"a1b2 a1! b0!", "a0b0!"}, {"a1 a2! a3 a0", "a1! a0"}, {"-", "!"}, {"a1 -", "a0! -"}} {
		a, b := roomy(texts[0]), roomy(texts[1])
		wantA, wantB := whole(a), whole(b)
		word := []int{0, 1, 0, 99, 98}
		auto.May(a)
		auto.Run(a, word[:3])
		auto.Run(a, word[:4])
		auto.Same(a, b)
		auto.Same(a, a)
		auto.Both(a, b)
		auto.Both(a, a)
		auto.Count(a, 12)
		auto.Least(a)
		if whole(a) != wantA || whole(b) != wantB {
			t.Errorf("the automata became %s and %s, want %s and %s", whole(a), whole(b), wantA, wantB)
		}
		if !slices.Equal(word, []int{0, 1, 0, 99, 98}) {
			t.Errorf("the word became %v", word)
		}
	}
	parts := []api.Expr{{Kind: api.One}, {Kind: api.One, Type: 1}, {Kind: 99}}
	auto.Make(api.Expr{Kind: api.Seq, Parts: parts[:2]})
	if parts[0].Type != 0 || parts[1].Type != 1 || parts[2].Kind != 99 {
		t.Errorf("the parts became %v", parts)
	}
}

// Each list of a result is filled up to its capacity; no other list may change.
func TestSharesNothing(t *testing.T) {
	a, b := made(t, "(a|b)*a(a|b)"), made(t, "(a|b)*")
	for _, f := range []func() api.Auto{
		func() api.Auto { return made(t, "(a|b)*a(a|b)") },
		func() api.Auto { return made(t, "a") },
		func() api.Auto { both, _ := auto.Both(a, a); return both },
		func() api.Auto { both, _ := auto.Both(a, b); return both },
		func() api.Auto { both, _ := auto.Both(b, a); return both },
		func() api.Auto { both, _ := auto.Both(built("a1 b1"), a); return both },
	} {
		got, other := f(), f()
		want, wantA, wantB := clone(other), clone(a), clone(b)
		for i, row := range got.Next {
			all := row[:cap(row)]
			for j := range all {
				if j < len(row) && row[j] != want.Next[i][j] {
					t.Fatalf("lists of a result share memory")
				}
				all[j] = 99
			}
		}
		spare := got.Final[:cap(got.Final)]
		for i := range spare {
			spare[i] = !spare[i]
		}
		rows := got.Next[:cap(got.Next)]
		for i := range rows {
			rows[i] = nil
		}
		if !same(other, want) || !same(a, wantA) || !same(b, wantB) {
			t.Errorf("other lists became %s, %s, %s", written(other), written(a), written(b))
		}
	}
	word, _ := auto.Least(chain(40))
	again, _ := auto.Least(chain(40))
	for i := range word[:cap(word)] {
		word[:cap(word)][i] = 99
	}
	if !slices.Equal(again, make([]int, 39)) {
		t.Errorf("another word became %v", again)
	}
}

func FuzzMake(f *testing.F) {
	f.Add("a(b|c)*d?", "abcbd")
	f.Add("(a|b)*a(a|b)(a|b)", "bab")
	f.Add("(aa)*|(aaa)*|()", "")
	f.Fuzz(func(t *testing.T, s, word string) {
		if strings.Trim(word, "abcdefgh") != "" || len(word) > api.MaxWord {
			return
		}
		x, err := expr.Parse(s)
		if err != api.OK {
			return
		}
		a, err := auto.Make(x)
		if err == api.ErrSize {
			return
		}
		checkMake(t, x)
		checkCanonical(t, s, a)
		if want, _ := expr.Match(x, letters(word)); takes(a, letters(word)) != want {
			t.Errorf("Make(%q) = %s, which does not read %q as the expression does", s, written(a), word)
		}
	})
}

func FuzzBoth(f *testing.F) {
	f.Add([]byte{1, 0, 1, 2, 0, 1}, []byte{1, 1, 1, 0, 0})
	f.Add([]byte{0, 1, 0}, []byte{1, 2, 3, 4, 5, 6, 7, 8, 9})
	f.Fuzz(func(t *testing.T, p, q []byte) {
		read := func(l []byte) api.Auto {
			a := cycle(min(max(1, len(l)/3), 8))
			for s, row := range a.Next {
				if i := 3 * s; i+3 <= len(l) {
					row[0], row[3] = int(l[i])%(len(a.Next)+1)-1, int(l[i+1])%(len(a.Next)+1)-1
					a.Final[s] = l[i+2]&1 == 1
				}
			}
			return a
		}
		a, b := read(p), read(q)
		checkBoth(t, a, b)
		first, _ := expected(graphOfAuto(a))
		second, _ := expected(graphOfAuto(b))
		checkSame(t, same(first, second), a, b)
		checkSame(t, true, a, first)
	})
}
