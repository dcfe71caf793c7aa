package show_test

import (
	"fmt"
	"reflect"
	"regexp"
	"runtime"
	"slices"
	"strings"
	"testing"

	"bobbinet/api"
	"bobbinet/show"
	"bobbinet/tok"
	"bobbinet/tree"
)

func text(s string) api.Node {
	return api.Node{Text: s}
}

func element(name string, parts ...api.Node) api.Node {
	return api.Node{Name: name, Parts: parts}
}

// withAttrs returns the node with attributes of names and values.
func withAttrs(n api.Node, l ...string) api.Node {
	for i := 0; i < len(l); i += 2 {
		n.Attrs = append(n.Attrs, api.Attr{Name: l[i], Value: l[i+1]})
	}
	return n
}

// named returns attributes with these names.
func named(names ...string) []api.Attr {
	var attrs []api.Attr
	for _, name := range names {
		attrs = append(attrs, api.Attr{Name: name, Value: "v"})
	}
	return attrs
}

// within returns the nodes in depth elements within each other.
func within(depth int, parts ...api.Node) []api.Node {
	for range depth {
		parts = []api.Node{element("b", parts...)}
	}
	return parts
}

// times returns the nodes so often.
func times(n int, l ...api.Node) []api.Node {
	return slices.Repeat(l, n)
}

// same tells whether the lists are alike; lists without elements are, nil or not.
func same(a, b []api.Node) bool {
	return slices.EqualFunc(a, b, func(x, y api.Node) bool {
		return x.Name == y.Name && x.Text == y.Text && slices.Equal(x.Attrs, y.Attrs) && same(x.Parts, y.Parts)
	})
}

// clone returns a copy that shares nothing.
func clone(l []api.Node) []api.Node {
	var copied []api.Node
	for _, n := range l {
		n.Attrs = slices.Clone(n.Attrs)
		n.Parts = clone(n.Parts)
		copied = append(copied, n)
	}
	return copied
}

// shown shortens what a message shows.
func shown(value any) string {
	return fmt.Sprintf("%.400s", fmt.Sprintf("%+v", value))
}

// checkError is for lists that Check refuses: Text then refuses them too.
func checkError(t *testing.T, want api.Errno, l ...api.Node) {
	t.Helper()
	if got := show.Check(l); got != want {
		t.Errorf("Check of %d nodes %s = %v, want %v", len(l), shown(l), got, want)
	}
	if s, err := show.Text(l); s != "" || err != want {
		t.Errorf("Text of %d nodes %s = %.50q, %v, want %v", len(l), shown(l), s, err, want)
	}
}

// checkText is for lists that are serialized, and checks that they are read again.
func checkText(t *testing.T, want string, l ...api.Node) {
	t.Helper()
	if err := show.Check(l); err != api.OK {
		t.Errorf("Check of %d nodes %s = %v", len(l), shown(l), err)
	}
	if s, err := show.Text(l); s != want || err != api.OK {
		t.Errorf("Text of %d nodes %s = %q, %v, want %q", len(l), shown(l), s, err, want)
	}
	if got, err := show.Read(want); !same(got, l) || err != api.OK {
		t.Errorf("Read(%q) = %s, %v, want %s", want, shown(got), err, shown(l))
	}
}

// checkLong is for lists that Check accepts, and whose text is too long.
func checkLong(t *testing.T, l ...api.Node) {
	t.Helper()
	if err := show.Check(l); err != api.OK {
		t.Errorf("Check of %d nodes %s = %v", len(l), shown(l), err)
	}
	if s, err := show.Text(l); s != "" || err != api.ErrSize {
		t.Errorf("Text of %d nodes %s = %.50q, %v, want ErrSize", len(l), shown(l), s, err)
	}
}

// checkNotRead is for texts that Read refuses.
func checkNotRead(t *testing.T, want api.Errno, s string) {
	t.Helper()
	if got, err := show.Read(s); len(got) > 0 || err != want {
		t.Errorf("Read(%d bytes, %.100q) = %s, %v, want %v", len(s), s, shown(got), err, want)
	}
}

var (
	void = strings.Fields("br hr img input")
	raw  = strings.Fields("script style textarea title")
)

// Below, chapter 6 is written as the list of its errors, all of which are found before the first one is taken.
var (
	namePattern = regexp.MustCompile(`^[a-z][a-z0-9-]{0,11}$`)
	forText     = strings.NewReplacer("&", "&amp;", "<", "&lt;", ">", "&gt;")
	forValue    = strings.NewReplacer("&", "&amp;", "<", "&lt;", ">", "&gt;", "\"", "&quot;")
)

type failure struct {
	broken bool
	err    api.Errno
}

// failures is P6.1 for a node that is nested in depth others; after tells whether it directly follows a text.
func failures(n api.Node, depth int, after bool) []failure {
	isText := n.Name == ""
	badName := !namePattern.MatchString(n.Name)
	seen := map[string]bool{}
	for _, a := range n.Attrs {
		badName = badName || !namePattern.MatchString(a.Name)
		seen[a.Name] = true
	}
	return []failure{
		{depth >= 10, api.ErrDeep},
		{isText && (len(n.Attrs) != 0 || len(n.Parts) != 0), api.ErrForm},
		{isText && n.Text == "", api.ErrForm},
		{isText && after, api.ErrForm},
		{!isText && badName, api.ErrName},
		{!isText && len(n.Attrs) > 4, api.ErrSize},
		{!isText && len(seen) < len(n.Attrs), api.ErrTwice},
		{!isText && n.Text != "", api.ErrForm},
		{slices.Contains(void, n.Name) && len(n.Parts) != 0, api.ErrForm},
		{slices.Contains(raw, n.Name), api.ErrForm},
	}
}

// collect appends the failures of the nodes in preorder, and counts the nodes.
func collect(all []failure, l []api.Node, depth int) ([]failure, int) {
	count := len(l)
	for i, n := range l {
		all = append(all, failures(n, depth, i > 0 && l[i-1].Name == "")...)
		var within int
		all, within = collect(all, n.Parts, depth+1)
		count += within
	}
	return all, count
}

// expectedError is P6.1.
func expectedError(l []api.Node) api.Errno {
	all, count := collect(nil, l, 0)
	for _, f := range append(all, failure{count > 150, api.ErrSize}) {
		if f.broken {
			return f.err
		}
	}
	return api.OK
}

// expectedText is P6.2 for valid nodes, whatever the length.
func expectedText(l []api.Node) string {
	s := ""
	for _, n := range l {
		if n.Name == "" {
			s += forText.Replace(n.Text)
			continue
		}
		s += "<" + n.Name
		for _, a := range n.Attrs {
			s += " " + a.Name + "=\"" + forValue.Replace(a.Value) + "\""
		}
		s += ">"
		if !slices.Contains(void, n.Name) {
			s += expectedText(n.Parts) + "</" + n.Name + ">"
		}
	}
	return s
}

func checkExpected(t *testing.T, l ...api.Node) {
	t.Helper()
	if err := expectedError(l); err != api.OK {
		checkError(t, err, l...)
	} else if s := expectedText(l); len(s) > 600 {
		checkLong(t, l...)
	} else {
		checkText(t, s, l...)
	}
}

// Below, what Text returns is written as a grammar.
var (
	textPattern  = regexp.MustCompile(`^(?:[^&<>]|&amp;|&lt;|&gt;)+`)
	startPattern = regexp.MustCompile(`^<([a-z][a-z0-9-]{0,11})((?: [a-z][a-z0-9-]{0,11}="(?:[^&<>"]|&amp;|&lt;|&gt;|&quot;)*")*)>`)
	attrPattern  = regexp.MustCompile(` ([^ =]+)="([^"]*)"`)
	plain        = strings.NewReplacer("&amp;", "&", "&lt;", "<", "&gt;", ">", "&quot;", "\"")
)

// parse returns the nodes that s begins with, and what follows them.
func parse(s string) ([]api.Node, string) {
	var l []api.Node
	for {
		if found := textPattern.FindString(s); found != "" {
			l, s = append(l, text(plain.Replace(found))), s[len(found):]
			continue
		}
		m := startPattern.FindStringSubmatch(s)
		if m == nil {
			return l, s
		}
		n, rest := element(m[1]), s[len(m[0]):]
		for _, a := range attrPattern.FindAllStringSubmatch(m[2], -1) {
			n = withAttrs(n, a[1], plain.Replace(a[2]))
		}
		if !slices.Contains(void, n.Name) {
			n.Parts, rest = parse(rest)
			var found bool
			if rest, found = strings.CutPrefix(rest, "</"+n.Name+">"); !found {
				return l, s
			}
		}
		l, s = append(l, n), rest
	}
}

// expectedRead is what chapter 6 says of Read.
func expectedRead(s string) ([]api.Node, api.Errno) {
	if len(s) > 600 {
		return nil, api.ErrSize
	}
	if l, rest := parse(s); rest == "" && expectedError(l) == api.OK {
		return l, api.OK
	}
	return nil, api.ErrForm
}

func checkExpectedRead(t *testing.T, s string) {
	t.Helper()
	want, wantErr := expectedRead(s)
	got, err := show.Read(s)
	if err != wantErr || !same(got, want) {
		t.Errorf("Read(%q) = %s, %v, want %s, %v", s, shown(got), err, shown(want), wantErr)
	}
	if err != api.OK {
		return
	}
	if again, err := show.Text(got); again != s || err != api.OK {
		t.Errorf("Read(%q) = %s, whose text is %q, %v", s, shown(got), again, err)
	}
}

// every calls f with each list of up to most of the pieces.
func every[T any](pieces []T, most int, f func(l []T)) {
	var extend func(l []T, left int)
	extend = func(l []T, left int) {
		f(l)
		if left == 0 {
			return
		}
		for _, piece := range pieces {
			extend(append(slices.Clip(l), piece), left-1)
		}
	}
	extend(nil, most)
}

// around calls f with lists that contain the node in different places, and with how many elements it is nested in.
func around(n api.Node, f func(l []api.Node, depth int)) {
	f([]api.Node{n}, 0)
	f([]api.Node{text("x"), element("a"), n, element("c"), text("y")}, 0)
	f([]api.Node{element("p", element("i", text("x")), n)}, 1)
	f([]api.Node{text("x"), element("p", element("br"), n, element("p")), text("y")}, 1)
	f(within(8, n, element("a")), 8)
	f(within(9, n), 9)
	f(within(9, element("i"), n), 9)
}

// checkNodeError checks an error of a node in all places where it is not too deep.
func checkNodeError(t *testing.T, want api.Errno, n api.Node) {
	t.Helper()
	around(n, func(l []api.Node, depth int) {
		t.Helper()
		checkError(t, want, l...)
	})
	checkError(t, api.ErrDeep, within(10, n)...)
}

// P6.1: how many nodes a node may be nested in, which precedes all else that is wrong with it.
func TestCheckDeep(t *testing.T) {
	for _, n := range []api.Node{text("x"), element("a"), element("br"), withAttrs(element("a"), "b", "1")} {
		for depth := range 10 {
			checkExpected(t, within(depth, n)...)
			checkText(t, strings.Repeat("<b>", depth)+expectedText([]api.Node{n})+strings.Repeat("</b>", depth), within(depth, n)...)
		}
		for _, depth := range []int{10, 11, 12, 20, 300} {
			checkError(t, api.ErrDeep, within(depth, n)...)
		}
		checkError(t, api.ErrDeep, element("i", within(8, element("i"), element("i", n))...), n)
	}
	for _, n := range []api.Node{{}, element("A"), element("title"), {Text: "x", Attrs: named("a")}, {Name: "a", Attrs: named("B", "B")}, {Name: "a", Text: "x"}, element("br", text("x"))} {
		checkError(t, api.ErrDeep, within(10, n)...)
		checkError(t, api.ErrDeep, within(10, text("x"), n)...)
	}
	// Only the node that is too deep is wrong, not those around it.
	checkError(t, api.ErrDeep, slices.Concat(within(10), within(10, text("x")))...)
	checkText(t, strings.Repeat("<b>", 10)+strings.Repeat("</b>", 10), within(10)...)
	checkError(t, api.ErrDeep, within(1<<16)...)
	// A node in a text is not reached, as the text is wrong.
	checkError(t, api.ErrForm, within(9, api.Node{Text: "x", Parts: []api.Node{text("y")}})...)
	checkError(t, api.ErrForm, within(9, element("br", text("y")))...)
}

// P6.1: what a text must have, or must not.
func TestCheckTexts(t *testing.T) {
	checkNodeError(t, api.ErrForm, api.Node{})
	checkNodeError(t, api.ErrForm, api.Node{Attrs: []api.Attr{}, Parts: []api.Node{}})
	checkNodeError(t, api.ErrForm, api.Node{Text: "x", Attrs: named("a")})
	checkNodeError(t, api.ErrForm, api.Node{Text: "x", Attrs: named("A", "A", "", "b", "c")})
	checkNodeError(t, api.ErrForm, api.Node{Text: "x", Parts: []api.Node{text("y")}})
	checkNodeError(t, api.ErrForm, api.Node{Text: "x", Parts: []api.Node{element("A")}})
	checkNodeError(t, api.ErrForm, api.Node{Attrs: named("a")})
	checkNodeError(t, api.ErrForm, api.Node{Parts: []api.Node{text("y")}})
	checkNodeError(t, api.ErrForm, api.Node{Parts: within(20)})
	// A list without elements is none, nil or not.
	checkText(t, "x", api.Node{Text: "x", Attrs: []api.Attr{}, Parts: []api.Node{}})
	for _, s := range []string{"x", " ", "\n", "\x00", "\xff", "é", "<", "<b></b>"} {
		around(text(s), func(l []api.Node, depth int) { checkExpected(t, l...) })
	}
}

// P6.1: a text directly behind a text.
func TestCheckTextTwice(t *testing.T) {
	checkError(t, api.ErrForm, text("x"), text("y"))
	checkError(t, api.ErrForm, text("x"), text("x"), element("a"))
	checkError(t, api.ErrForm, element("a"), text("x"), text("y"))
	checkError(t, api.ErrForm, element("p", text("x"), text("y")))
	checkError(t, api.ErrForm, text("z"), element("p", element("br"), text("x"), text("y")))
	checkError(t, api.ErrForm, within(9, text("x"), text("y"))...)
	// The nodes between two texts may be empty, and texts of different lists do not follow each other.
	checkText(t, "x<b></b>y", text("x"), element("b"), text("y"))
	checkText(t, "x<br>y<br><br>z", text("x"), element("br"), text("y"), element("br"), element("br"), text("z"))
	checkText(t, "x<b>y</b>z", text("x"), element("b", text("y")), text("z"))
	checkText(t, "<b>x</b><b>y</b>", element("b", text("x")), element("b", text("y")))
	checkText(t, "<b><i>x</i>y</b>z", element("b", element("i", text("x")), text("y")), text("z"))
	// The nodes are checked in their order.
	checkError(t, api.ErrForm, text("x"), text("y"), element("A"))
	checkError(t, api.ErrName, text("x"), element("A"), text("x"), text("y"))
	checkError(t, api.ErrName, element("b", element("A")), text("x"), text("y"))
}

// names are names, badNames are none.
var (
	names = []string{
		"a", "z", "a0", "a9", "a-", "z-z", "h1", "p", "li", "a--", "a---0", "scripts", "script-", "styl", "titles", "brr", "b", "h", "im", "img1", "inputs", "text",
		"abcdefghijkl", "mnopqrstuvwx", "yz0123456789", "a-----------", "a00000000000",
	}
	badNames = []string{
		"A", "Z", "aB", "aZ", "BR", "0", "9", "1a", "-", "-a", "--", " ", " a", "a ", "a b", "a_", "_a", "a.b", "a:b", "a/", "/a", "br/",
		"a>", "<a", "a=", "a\"", "a'", "a&", "a\t", "a\n", "\na", "a\r", "a\x00", "\x00", "`", "{", "a`", "a{", "a@", "a[",
		"\xff", "a\xff", "a\x80", "é", "aé", "\u017f", "a\u017f", "\u212a", "a\uff11", "\u0660", "a\u0660", "a\u2011b", "\ufffd",
		"abcdefghijklm", "a------------", "abcdefghijkl ", "abcdefghijké", strings.Repeat("a", 24), strings.Repeat("a", 100000),
	}
)

// P6.1: the names of elements and attributes.
func TestCheckNames(t *testing.T) {
	for _, name := range names {
		around(element(name), func(l []api.Node, depth int) { checkText(t, expectedText(l), l...) })
		checkText(t, "<"+name+">x</"+name+">", element(name, text("x")))
		checkText(t, "<a "+name+"=\"v\"></a>", api.Node{Name: "a", Attrs: named(name)})
		checkText(t, "<"+name+" "+name+"=\"v\"></"+name+">", api.Node{Name: name, Attrs: named(name)})
	}
	for _, name := range append(void, raw...) {
		checkText(t, "<a "+name+"=\"v\"></a>", api.Node{Name: "a", Attrs: named(name)})
	}
	for _, name := range badNames {
		checkNodeError(t, api.ErrName, element(name))
		checkNodeError(t, api.ErrName, element(name, text("x")))
	}
	for _, name := range append(badNames, "") {
		checkNodeError(t, api.ErrName, api.Node{Name: "a", Attrs: named(name)})
		checkNodeError(t, api.ErrName, api.Node{Name: "a", Attrs: named("b", "c", name)})
		checkNodeError(t, api.ErrName, api.Node{Name: "a", Attrs: named(name, "b", "c")})
		checkNodeError(t, api.ErrName, api.Node{Name: "br", Attrs: named(name)})
	}
}

// P6.1: the number of attributes, and equal names of them.
func TestCheckAttrs(t *testing.T) {
	for _, name := range []string{"a", "p", "br", "input"} {
		with := func(names ...string) api.Node { return api.Node{Name: name, Attrs: named(names...)} }
		checkNodeError(t, api.ErrSize, with("a", "b", "c", "d", "e"))
		checkNodeError(t, api.ErrSize, with("a", "b", "c", "d", "e", "f", "g"))
		checkNodeError(t, api.ErrTwice, with("a", "a"))
		checkNodeError(t, api.ErrTwice, with("a", "b", "a"))
		checkNodeError(t, api.ErrTwice, with("b", "a", "a"))
		checkNodeError(t, api.ErrTwice, with("a", "b", "c", "a"))
		checkNodeError(t, api.ErrTwice, with("a", "b", "c", "c"))
		checkNodeError(t, api.ErrTwice, with("a", "a", "a", "a"))
		// A name that is none precedes the number, and the number precedes equal names, wherever they are.
		checkNodeError(t, api.ErrName, with("a", "b", "c", "d", "E"))
		checkNodeError(t, api.ErrName, with("a", "b", "c", "d", "e", ""))
		checkNodeError(t, api.ErrSize, with("a", "a", "c", "d", "e"))
		checkNodeError(t, api.ErrSize, with("a", "b", "c", "d", "d"))
		checkNodeError(t, api.ErrName, with("a", "a", "B"))
		checkNodeError(t, api.ErrName, with("A", "A"))
	}
	many := api.Node{Name: "x"}
	for range 100000 {
		many.Attrs = append(many.Attrs, api.Attr{Name: "a"})
	}
	checkNodeError(t, api.ErrSize, many)
	four := api.Node{Name: "x", Attrs: named("d", "c", "b", "a")}
	around(four, func(l []api.Node, depth int) { checkText(t, expectedText(l), l...) })
	// Different elements may have attributes of the same name, with different values of one.
	checkText(t, `<x a="1"><x a="2"></x></x><x a="1"></x>`, withAttrs(element("x", withAttrs(element("x"), "a", "2")), "a", "1"), withAttrs(element("x"), "a", "1"))
}

// P6.1: what an element must not have, behind its names.
func TestCheckElements(t *testing.T) {
	for _, name := range append([]string{"a", "p", "li"}, void...) {
		checkNodeError(t, api.ErrForm, api.Node{Name: name, Text: "x"})
		checkNodeError(t, api.ErrForm, api.Node{Name: name, Text: " ", Attrs: named("a")})
		checkNodeError(t, api.ErrForm, api.Node{Name: name, Text: "x", Parts: []api.Node{text("x")}})
		checkNodeError(t, api.ErrForm, api.Node{Name: name, Text: "x", Parts: []api.Node{element("A")}})
		checkNodeError(t, api.ErrName, api.Node{Name: name, Text: "x", Attrs: named("A")})
		checkNodeError(t, api.ErrSize, api.Node{Name: name, Text: "x", Attrs: named("a", "a", "a", "a", "a")})
		checkNodeError(t, api.ErrTwice, api.Node{Name: name, Text: "x", Attrs: named("a", "a")})
	}
	checkNodeError(t, api.ErrName, api.Node{Name: "A", Text: "x"})
	for _, name := range void {
		checkNodeError(t, api.ErrForm, element(name, text("x")))
		checkNodeError(t, api.ErrForm, element(name, element("a")))
		checkNodeError(t, api.ErrForm, element(name, element("A")))
		checkNodeError(t, api.ErrForm, element(name, text("x"), text("y")))
		checkNodeError(t, api.ErrForm, element(name, within(20)...))
		checkNodeError(t, api.ErrForm, element(name, times(200, element("a"))...))
		checkNodeError(t, api.ErrName, api.Node{Name: name, Attrs: named("A"), Parts: within(1)})
		checkNodeError(t, api.ErrSize, api.Node{Name: name, Attrs: named("a", "b", "c", "d", "e"), Parts: within(1)})
		checkNodeError(t, api.ErrTwice, api.Node{Name: name, Attrs: named("a", "a"), Parts: within(1)})
		checkNodeError(t, api.ErrName, element(strings.ToUpper(name), text("x")))
		checkText(t, "<"+name+">", api.Node{Name: name, Parts: []api.Node{}, Attrs: []api.Attr{}})
		around(element(name), func(l []api.Node, depth int) { checkText(t, expectedText(l), l...) })
	}
	for _, name := range raw {
		checkNodeError(t, api.ErrForm, element(name))
		checkNodeError(t, api.ErrForm, element(name, text("x")))
		checkNodeError(t, api.ErrForm, element(name, element("A")))
		checkNodeError(t, api.ErrForm, api.Node{Name: name, Text: "x"})
		checkNodeError(t, api.ErrForm, api.Node{Name: name, Attrs: named("a")})
		checkNodeError(t, api.ErrForm, element(name, within(20)...))
		checkNodeError(t, api.ErrName, api.Node{Name: name, Attrs: named("A")})
		checkNodeError(t, api.ErrSize, api.Node{Name: name, Attrs: named("a", "b", "c", "d", "e")})
		checkNodeError(t, api.ErrTwice, api.Node{Name: name, Attrs: named("a", "a")})
		checkNodeError(t, api.ErrName, element(strings.ToUpper(name)))
		checkError(t, api.ErrForm, element(name), element(name))
	}
}

// P6.1: the first node in preorder that is wrong counts, and its first error.
func TestCheckOrder(t *testing.T) {
	broken := []struct {
		err api.Errno
		n   api.Node
	}{
		{api.ErrName, element("A")},
		{api.ErrName, api.Node{Name: "a", Attrs: named("B")}},
		{api.ErrSize, api.Node{Name: "a", Attrs: named("b", "c", "d", "e", "f")}},
		{api.ErrTwice, api.Node{Name: "a", Attrs: named("b", "b")}},
		{api.ErrForm, api.Node{Name: "a", Text: "x"}},
		{api.ErrForm, element("br", text("x"))},
		{api.ErrForm, element("title")},
		{api.ErrForm, api.Node{}},
		{api.ErrDeep, within(11)[0]},
	}
	for _, x := range broken {
		for _, y := range broken {
			checkError(t, x.err, x.n, y.n)
			checkError(t, x.err, element("p", text("x"), x.n), y.n)
			checkError(t, x.err, text("x"), x.n, element("p", y.n))
			checkError(t, x.err, element("p", element("p", x.n)), element("p", y.n))
			if x.err == api.ErrDeep {
				continue
			}
			// A node is checked ahead of its parts.
			parent := x.n
			parent.Parts = []api.Node{y.n}
			checkError(t, x.err, parent)
			checkError(t, x.err, element("p", parent))
		}
	}
}

// P6.1: how many nodes there may be, which all other errors precede.
func TestCheckSize(t *testing.T) {
	checkText(t, strings.Repeat("<br>", 150), times(150, element("br"))...)
	checkText(t, strings.Repeat("<br>x", 75), times(75, element("br"), text("x"))...)
	checkLong(t, times(150, element("b"))...)
	checkText(t, strings.Repeat("<b>x</b>", 75), times(75, element("b", text("x")))...)
	checkLong(t, times(50, element("b", element("br"), element("i")))...)
	checkLong(t, within(5, times(145, element("b"))...)...)
	checkLong(t, within(9, times(141, element("br"))...)...)
	for _, n := range []api.Node{element("b"), element("br"), withAttrs(element("br"), "a", "1")} {
		checkError(t, api.ErrSize, times(151, n)...)
		checkError(t, api.ErrSize, within(5, times(146, n)...)...)
		checkError(t, api.ErrSize, within(9, times(142, n)...)...)
		checkError(t, api.ErrSize, append(times(50, element("b", n, n)), n)...)
	}
	checkError(t, api.ErrSize, times(76, element("br"), text("x"))[:151]...)
	checkError(t, api.ErrSize, append(times(75, element("b", text("x"))), text("y"))...)
	checkError(t, api.ErrSize, times(100000, element("b"))...)
	full := times(200, element("b"))
	checkError(t, api.ErrForm, append(full[:200:200], api.Node{})...)
	checkError(t, api.ErrName, append(full[:200:200], element("A"))...)
	checkError(t, api.ErrTwice, append(full[:200:200], api.Node{Name: "a", Attrs: named("b", "b")})...)
	checkError(t, api.ErrDeep, append(full[:200:200], within(11)...)...)
	checkError(t, api.ErrForm, append(full[:150:150], text("x"), text("y"))...)
	checkError(t, api.ErrForm, element("p", full...), element("title"))
}

// P6.1 and P6.2 as they are written above, for nodes with all that they may have, in different places.
func TestEveryNode(t *testing.T) {
	attrs := [][]api.Attr{
		nil, {}, named("a"), named("A"), named("a", "b"), named("a", "a"), named("a", "A", "a"), named("a", "b", "c", "d"),
		named("a", "b", "a", "d"), named("a", "b", "c", "d", "e"), named("a", "a", "c", "d", "e"), named("a", "b", "c", "d", ""),
	}
	parts := [][]api.Node{
		nil, {}, {text("x")}, {element("i")}, {element("A")}, {{}}, {text("x"), text("y")}, {element("i", text("x")), text("y")}, within(1), within(2), within(11), times(150, element("i")),
	}
	var n api.Node
	for _, n.Name = range []string{"", "a", "p", "A", "br", "input", "script", "title", "twelve-bytes", "thirteen-byte"} {
		for _, n.Attrs = range attrs {
			for _, n.Text = range []string{"", "x", "<\"&>"} {
				for _, n.Parts = range parts {
					around(n, func(l []api.Node, depth int) { checkExpected(t, l...) })
					checkExpected(t, text("x"), n)
					checkExpected(t, n, text("x"))
					checkExpected(t, within(10, n)...)
					checkExpected(t, element("p", text("x"), n, text("y")), text("z"))
				}
			}
		}
	}
}

// P6.1 and P6.2 as they are written above, for every small tree of some nodes.
func TestEveryTree(t *testing.T) {
	leaves := []api.Node{text("a"), text("&lt;"), element("br"), withAttrs(element("p"), "b", "\"'>"), element("title"), {}, element("A")}
	var lists [][]api.Node
	every(leaves, 2, func(l []api.Node) { lists = append(lists, l) })
	nodes := slices.Clone(leaves)
	for _, l := range lists {
		nodes = append(nodes, element("p", l...), element("li", element("li", l...)))
	}
	every(nodes, 2, func(l []api.Node) { checkExpected(t, l...) })
	every(leaves, 4, func(l []api.Node) { checkExpected(t, l...) })
	every(leaves[:4], 6, func(l []api.Node) { checkExpected(t, l...) })
}

// P6.2: how nodes are written.
func TestText(t *testing.T) {
	checkText(t, "")
	checkText(t, "", []api.Node{}...)
	checkText(t, "a", text("a"))
	checkText(t, "<p></p>", element("p"))
	checkText(t, "<p>a</p>", element("p", text("a")))
	checkText(t, "<p>a&lt;<br></p>b", element("p", text("a<"), element("br")), text("b"))
	checkText(t, "<br>", element("br"))
	checkText(t, "<a><b><c>x</c></b></a>", element("a", element("b", element("c", text("x")))))
	checkText(t, "<a>x<b></b></a><c></c>y", element("a", text("x"), element("b")), element("c"), text("y"))
	checkText(t, `<p a="1">x</p>`, withAttrs(element("p", text("x")), "a", "1"))
	checkText(t, `<p b="2" a="1"></p>`, withAttrs(element("p"), "b", "2", "a", "1"))
	checkText(t, `<p a="" b="" c="" d=""></p>`, withAttrs(element("p"), "a", "", "b", "", "c", "", "d", ""))
	checkText(t, `<img src="/"><input a="b/">`, withAttrs(element("img"), "src", "/"), withAttrs(element("input"), "a", "b/"))
	checkText(t, " \n<p> </p>\t", text(" \n"), element("p", text(" ")), text("\t"))
	for _, name := range void {
		checkText(t, "<"+name+">", element(name))
		checkText(t, "a<"+name+" b=\"c\">d", text("a"), withAttrs(element(name), "b", "c"), text("d"))
		checkText(t, "<p><"+name+"><"+name+"></p>", element("p", element(name), element(name)))
	}
}

// P6.2: elements that tree.Build would close are read again where they were.
func TestTextNested(t *testing.T) {
	for _, outer := range strings.Fields("p div ul ol li h1 h2 table blockquote b") {
		for _, inner := range strings.Fields("p div ul ol li h1 h2 table blockquote b") {
			checkText(t, "<"+outer+"><"+inner+"></"+inner+"></"+outer+">", element(outer, element(inner)))
			checkText(t, "<"+outer+">a<"+inner+">b</"+inner+">c</"+outer+">d", element(outer, text("a"), element(inner, text("b")), text("c")), text("d"))
			checkText(t, "<"+outer+"><b><"+inner+">x</"+inner+"></b></"+outer+">", element(outer, element("b", element(inner, text("x")))))
		}
	}
	checkText(t, "<ul><li><li><p><p>x</p></p></li></li></ul>", element("ul", element("li", element("li", element("p", element("p", text("x")))))))
	deep := text("x")
	for range 9 {
		deep = element("p", deep)
	}
	checkText(t, strings.Repeat("<p>", 9)+"x"+strings.Repeat("</p>", 9), deep)
}

// P6.2: what is replaced in texts and in values.
func TestTextReferences(t *testing.T) {
	for _, c := range []struct{ s, text, value string }{
		{"&", "&amp;", "&amp;"},
		{"<", "&lt;", "&lt;"},
		{">", "&gt;", "&gt;"},
		{"\"", "\"", "&quot;"},
		{"'", "'", "'"},
		{"&amp;", "&amp;amp;", "&amp;amp;"},
		{"&lt;", "&amp;lt;", "&amp;lt;"},
		{"&#65;", "&amp;#65;", "&amp;#65;"},
		{"&nbsp;", "&amp;nbsp;", "&amp;nbsp;"},
		{"<b>", "&lt;b&gt;", "&lt;b&gt;"},
		{"</p>", "&lt;/p&gt;", "&lt;/p&gt;"},
		{"<!--a-->", "&lt;!--a--&gt;", "&lt;!--a--&gt;"},
		{"</", "&lt;/", "&lt;/"},
		{"\"><script>", "\"&gt;&lt;script&gt;", "&quot;&gt;&lt;script&gt;"},
		{"'a'=\"b\"", "'a'=\"b\"", "'a'=&quot;b&quot;"},
		{" a\t\n\f\r ", " a\t\n\f\r ", " a\t\n\f\r "},
		{"\x00\xff\xc3", "\x00\xff\xc3", "\x00\xff\xc3"},
		{"é\u00a0©😀", "é\u00a0©😀", "é\u00a0©😀"},
	} {
		checkText(t, c.text, text(c.s))
		checkText(t, "<p>"+c.text+"</p>", element("p", text(c.s)))
		checkText(t, "<p a=\""+c.value+"\"></p>", withAttrs(element("p"), "a", c.s))
		checkText(t, "<br a=\""+c.value+"\">"+c.text+"<i b=\""+c.value+"\">"+c.text+"</i>", withAttrs(element("br"), "a", c.s), text(c.s), withAttrs(element("i", text(c.s)), "b", c.s))
	}
}

// P6.2: each two bytes as a text and as a value, which become no markup.
func TestTextBytes(t *testing.T) {
	for c := range 256 {
		for _, d := range []byte("&<>\"'/=! \t\n\f;#-a\x00\xff") {
			for _, s := range []string{string([]byte{byte(c), d}), string([]byte{d, byte(c)})} {
				checkExpected(t, withAttrs(element("p", text(s)), "a", s, "b", s), text(s))
			}
		}
	}
}

// P6.2: the bytes of the result are limited, with their references.
func TestTextSize(t *testing.T) {
	for _, c := range []struct{ s, text, value string }{
		{"a", "a", "a"},
		{"é", "é", "é"},
		{"<", "&lt;", "&lt;"},
		{"&", "&amp;", "&amp;"},
		{"\"", "\"", "&quot;"},
	} {
		most := 600 / len(c.text)
		checkText(t, strings.Repeat(c.text, most), text(strings.Repeat(c.s, most)))
		checkLong(t, text(strings.Repeat(c.s, most+1)))
		checkLong(t, text(strings.Repeat(c.s, most)+"a"))
		checkLong(t, element("br"), text(strings.Repeat(c.s, most)))
		checkLong(t, text(strings.Repeat(c.s, most)), element("br"))
		checkLong(t, element("b", text(strings.Repeat(c.s, most))))

		fixed := len(`<p a=""></p>`)
		most = (600 - fixed) / len(c.value)
		spare := strings.Repeat("x", 600-fixed-most*len(c.value))
		value := strings.Repeat(c.s, most) + spare
		checkText(t, `<p a="`+strings.Repeat(c.value, most)+spare+`"></p>`, withAttrs(element("p"), "a", value))
		checkLong(t, withAttrs(element("p"), "a", value+"x"))
		checkLong(t, withAttrs(element("pp"), "a", value))
		checkLong(t, withAttrs(element("p"), "aa", value))
		checkLong(t, withAttrs(element("p"), "a", value, "b", ""))
		checkLong(t, withAttrs(element("p", text("x")), "a", value))
		checkLong(t, withAttrs(element("p"), "a", value), text("x"))
	}
	checkText(t, strings.Repeat("<b></b>", 85)+"<br>x", append(times(85, element("b")), element("br"), text("x"))...)
	checkLong(t, append(times(85, element("b")), element("br"), text("xy"))...)
	checkLong(t, times(86, element("b"))...)
	// The end tags count.
	checkText(t, "<b>"+strings.Repeat("x", 593)+"</b>", element("b", text(strings.Repeat("x", 593))))
	checkLong(t, element("b", text(strings.Repeat("x", 594))))
	checkText(t, "<br>"+strings.Repeat("x", 596), element("br"), text(strings.Repeat("x", 596)))
	checkLong(t, element("br"), text(strings.Repeat("x", 597)))
}

// P6.2: the error of Check precedes the length.
func TestTextErrorOrder(t *testing.T) {
	long := text(strings.Repeat("x", 601))
	checkLong(t, long)
	checkError(t, api.ErrForm, long, text("a"))
	checkError(t, api.ErrForm, long, element("title"))
	checkError(t, api.ErrForm, long, element("br", text("a")))
	checkError(t, api.ErrName, long, element("A"))
	checkError(t, api.ErrTwice, long, api.Node{Name: "a", Attrs: named("b", "b")})
	checkError(t, api.ErrDeep, element("p", long), within(11)[0])
	checkError(t, api.ErrForm, append(times(140, element("b")), api.Node{})...)
}

// allocated returns how many bytes f allocates.
func allocated(f func()) uint64 {
	var before, after runtime.MemStats
	runtime.ReadMemStats(&before)
	f()
	runtime.ReadMemStats(&after)
	return after.TotalAlloc - before.TotalAlloc
}

// P6.2: a text that is much too long is not escaped as a whole, which could take more memory than there is.
func TestTextVeryLong(t *testing.T) {
	long := strings.Repeat("\"", 20000000)
	for name, l := range map[string][]api.Node{
		"value":  {withAttrs(element("p"), "a", "", "b", long)},
		"values": {withAttrs(element("p"), "a", long, "b", long, "c", long, "d", long)},
		"text":   {element("p", text(long))},
		"texts":  times(75, text(long), element("br")),
	} {
		size := allocated(func() { checkLong(t, l...) })
		if size > 1000000 {
			t.Errorf("%s: Text allocates %d bytes", name, size)
		}
	}
	size := allocated(func() { checkNotRead(t, api.ErrSize, long) })
	if size > 1000000 {
		t.Errorf("Read allocates %d bytes", size)
	}
}

// What is as Text writes it is read.
func TestRead(t *testing.T) {
	for s, want := range map[string][]api.Node{
		"":                              nil,
		"a":                             {text("a")},
		" \r\n\x00\xff":                 {text(" \r\n\x00\xff")},
		"<p>a&lt;<br></p>b":             {element("p", text("a<"), element("br")), text("b")},
		"&amp;lt;\"'":                   {text("&lt;\"'")},
		"<b></b>a<i></i>":               {element("b"), text("a"), element("i")},
		`<p a="&quot;'&gt;"></p> `:      {withAttrs(element("p"), "a", "\"'>"), text(" ")},
		"<p><p></p></p>":                {element("p", element("p"))},
		"<li><li></li></li>":            {element("li", element("li"))},
		"<brr>a</brr>":                  {element("brr", text("a"))},
		"<title-></title->":             {element("title-")},
		"a<br>b<hr><img><input a=\"\">": {text("a"), element("br"), text("b"), element("hr"), element("img"), withAttrs(element("input"), "a", "")},
	} {
		checkText(t, s, want...)
		checkExpectedRead(t, s)
	}
}

// What is markup, but not as Text writes it, is not read.
func TestReadForm(t *testing.T) {
	for _, s := range []string{
		// Tags that do not belong together.
		"<p>a", "<p>", "<p>a</b>", "</p>", "</p>a", "a</p>", "a</p>b", "<b><i></b></i>", "<b></b></b>", "</b><b>", "<b><b></b>", "<p>a<p>b", "<p>a<p>b</p>", "<b></B>", "<b></bb>", "<bb></b>",
		"<b>a</b></i>c", "<b></b></br>", "<li>a<li>b</li>",
		// Elements without parts.
		"<br></br>", "</br>", "<br/>", "<br />", "<hr/>", "<img></img>", "<input>a</input>", "<br", "<BR>",
		// Tags that are written differently.
		"<P></P>", "<p></P>", "<P></p>", "<p ></p>", "<p\n></p>", "<p/></p>", "<p/>", "<p />", "<p></p >", "<p></p/>", "<p></p a=\"b\">", "<p", "<p></p", "< p></p>", "<p></ p>", "<p><</p>",
		// Attributes that are written differently.
		"<p a></p>", "<p a=b></p>", "<p a='b'></p>", "<p a =\"b\"></p>", "<p a= \"b\"></p>", "<p  a=\"b\"></p>", "<p a=\"b\" ></p>", "<p a=\"b\"  c=\"d\"></p>", "<p a=\"b\"c=\"d\"></p>", "<p A=\"b\"></p>",
		"<p a=\"b\" a=\"b\"></p>", "<p a=\"b\" a=\"c\"></p>", "<p\ta=\"b\"></p>", "<p/a=\"b\"></p>", "<p a=\"b\"/></p>", "<p a=\"b></p>", "<p a=\"b\"\"></p>", "<p a=\"<\"></p>", "<p a=\">\"></p>", "<p a=\"&\"></p>",
		"<p a=\"&#38;\"></p>", "<p a=\"&#34;\"></p>", "<p a=\"b\" \"c\"=\"d\"></p>", "<p a_=\"b\"></p>", "<p 1=\"b\"></p>", "<p =\"b\"></p>", "<p a=\"&copy;\"></p>",
		"<p a=\"1\" b=\"2\" c=\"3\" d=\"4\" e=\"5\"></p>", "<p thirteen-byte=\"1\"></p>", "<img a=b>", "<br a>",
		// References that are written differently.
		"&", "<", ">", "&quot;", "&#38;", "&#x26;", "&nbsp;", "&copy;", "&amp", "&lt", "&AMP;", "&;", "a & b", "a < b", "a > b", "a<", "</", "&amp;&", "&#60;", "<p>></p>",
		// Comments.
		"<!---->", "<!--a-->", "a<!--b-->", "a<!--b-->c", "<!a>", "<?a>", "</ a>", "<!", "<!--", "<p><!----></p>", "<!--&lt;-->", "<p>a</p><!---->",
		// Elements that Check refuses.
		"<script></script>", "<style></style>", "<textarea></textarea>", "<title></title>", "<script>a</script>", "<style><b></b></style>", "<textarea>a</textarea>", "<title>&lt;</title>", "<p><title></title></p>", "<script>", "<title>a",
		"<a_></a_>", "<a:b></a:b>", "<thirteen-byte></thirteen-byte>", "<é></é>", "<1>", "<a.b>x</a.b>",
		strings.Repeat("<b>", 11) + strings.Repeat("</b>", 11), strings.Repeat("<b>", 10) + "x" + strings.Repeat("</b>", 10), strings.Repeat("<b>", 10) + "<br>" + strings.Repeat("</b>", 10),
		strings.Repeat("<b>", 200), strings.Repeat("</b>", 150), strings.Repeat("<b>", 85) + strings.Repeat("</b>", 85),
		// What is right behind or ahead of it does not help.
		"<p>a</p><p>", "<p>a</p></p>", "<p>a</p>&", "&<p>a</p>", "<p>a</p><P>b</P>", "<P>a</P><p>b</p>", "a</b>a", "</b>", "<b>a</b></i>",
	} {
		checkNotRead(t, api.ErrForm, s)
		checkExpectedRead(t, s)
	}
}

// How long a text may be that is read, and how many nodes it may have.
func TestReadSize(t *testing.T) {
	for _, c := range []struct {
		s       string
		isNodes bool
	}{
		{strings.Repeat("x", 600), true},
		{strings.Repeat("<br>", 150), true},
		{strings.Repeat("<b></b>", 85) + "<br>x", true},
		{strings.Repeat("<br>x", 75), true},
		{strings.Repeat("<br>x", 75) + strings.Repeat("y", 225), true},
		{strings.Repeat("&", 600), false},
		{strings.Repeat("<b>", 200), false},
		{strings.Repeat("x", 599) + "<", false},
		{strings.Repeat("<a>", 10) + strings.Repeat("<br>", 5), false},
	} {
		checkExpectedRead(t, c.s)
		if _, err := show.Read(c.s); (err == api.OK) != c.isNodes {
			t.Errorf("Read(%.50q) = %v", c.s, err)
		}
	}
	// The length precedes the form.
	for _, s := range []string{"x", "&amp;", "&", "<b>", "</b>", "<br>", "<b></b>", "<!---->", "\x00", "<p a=\"", "<title>"} {
		for _, size := range []int{601, 602, 1200, 100000} {
			checkNotRead(t, api.ErrSize, strings.Repeat(s, size/len(s)+1)[:size])
		}
		checkExpectedRead(t, strings.Repeat(s, 600)[:600])
	}
}

// Read as it is written above, for every short text of some pieces.
func TestReadEvery(t *testing.T) {
	check := func(l []string) { checkExpectedRead(t, strings.Join(l, "")) }
	every([]string{"<p>", "</p>", "<b>", "</b>", "<br>", "x", "&lt;", "<!---->"}, 6, check)
	every([]string{"<li>", "</li>", "<ul>", "</ul>", "<p a=\"b\">", "</p>", "&", "<title>", "</title>"}, 5, check)
	every([]string{"<p", " a", "=", "\"", "'", "/", ">", " ", "&quot;", "</p>"}, 6, check)
	every([]string{"<", "/", "b", "B", ">", "!", "-", "?", "r"}, 6, check)
	every([]string{"&", "amp", "lt", "gt", "quot", ";", "#38", "<", ">"}, 5, check)
}

// Each byte at each place of a text that is read.
func TestReadBytes(t *testing.T) {
	const s = `a<p b="c" d="&lt;"><br>e</p>&gt;`
	checkExpectedRead(t, s)
	for i := range len(s) {
		checkExpectedRead(t, s[:i])
		checkExpectedRead(t, s[i:])
		checkExpectedRead(t, s[:i]+s[i+1:])
		for c := range 256 {
			checkExpectedRead(t, s[:i]+string([]byte{byte(c)})+s[i:])
			checkExpectedRead(t, s[:i]+string([]byte{byte(c)})+s[i+1:])
		}
	}
}

// What is imported is read again once it is written: both ways agree where nothing has to be closed.
func TestReadBuilt(t *testing.T) {
	for _, s := range []string{"<p>one<p>two</b>", "<ul><li>a<li>b<ul><li>c</ul></ul>d", "<B X=1>&nbsp;<I>&</I><br/>", "a<!--b-->c<hr>d", "<table><td>x<td y='\"'>z"} {
		l, _ := tok.Parse(s)
		nodes, _ := tree.Build(l)
		checkText(t, expectedText(nodes), nodes...)
	}
}

func sample() []api.Node {
	l := []api.Node{
		withAttrs(element("p", text("x<"), withAttrs(element("br"), "d", "4"), element("p", text("z"), element("i"), text("y"))), "a", "1", "b", "2", "c", "3"),
		text("&"),
		withAttrs(element("b", element("b"), element("b"), element("title")), "a", "1"),
		element("i"),
	}
	l[0].Attrs = l[0].Attrs[:2]
	l[2].Parts = l[2].Parts[:2]
	return l
}

// The list that is passed stays as it is, with its spare capacity.
func TestTextLeavesItsList(t *testing.T) {
	all := sample()
	for n := range len(all) + 1 {
		if err := show.Check(all[:n]); err != api.OK {
			t.Fatalf("Check = %v", err)
		}
		show.Text(all[:n])
		want := sample()
		if !reflect.DeepEqual(all, want) || !reflect.DeepEqual(all[0].Attrs[:3], want[0].Attrs[:3]) || !reflect.DeepEqual(all[2].Parts[:3], want[2].Parts[:3]) {
			t.Fatalf("the list became %s", shown(all))
		}
	}
}

// allLists calls f with each list of nodes in l, the inner ones first.
func allLists(l []api.Node, f func(l []api.Node)) {
	for _, n := range l {
		allLists(n.Parts, f)
	}
	f(l)
}

// The lists of a result share nothing with each other, and nothing with those of another result.
func TestReadSharesNothing(t *testing.T) {
	for _, s := range []string{
		`<p a="1" b="2">x<br a="1"><p>y<i></i>z</p>w</p>v<b a="1" b="2" c="3"><b></b><b></b><b></b></b>`,
		strings.Repeat(`<i a="1"></i>`, 20), strings.Repeat("<b>", 10) + strings.Repeat("</b><br>", 10), strings.Repeat("<p>x<br></p>", 30),
	} {
		got, err := show.Read(s)
		other, _ := show.Read(s)
		want := clone(got)
		if err != api.OK {
			t.Errorf("Read(%q) = %v", s, err)
		}
		allLists(got, func(l []api.Node) {
			spare := l[len(l):cap(l)]
			for i := range spare {
				spare[i] = element("changed")
			}
			for i := range l {
				spare := l[i].Attrs[len(l[i].Attrs):cap(l[i].Attrs)]
				for j := range spare {
					spare[j].Name = "changed"
				}
			}
		})
		if !same(got, want) {
			t.Errorf("the result became %s, want %s", shown(got), shown(want))
		}
		// Each list of attributes is changed, and only it is.
		allLists(got, func(l []api.Node) {
			for i := range l {
				for j := range l[i].Attrs {
					if l[i].Attrs[j].Name == "marked" {
						t.Fatalf("attributes are shared in %s", shown(got))
					}
					l[i].Attrs[j].Name = "marked"
				}
			}
		})
		if !same(other, want) {
			t.Errorf("another result became %s, want %s", shown(other), shown(want))
		}
	}
}

func FuzzRead(f *testing.F) {
	f.Add(`<p a="&quot;">x&lt;<br><p>y</p></p>z`)
	f.Add("<p>a<p>b</b><!--c--><title>d</title>&amp;")
	f.Fuzz(func(t *testing.T, s string) {
		checkExpectedRead(t, s)
		if l, err := tok.Parse(s); err == api.OK {
			if nodes, err := tree.Build(l); err == api.OK {
				checkExpected(t, nodes...)
			}
		}
		checkExpected(t, withAttrs(element("p", text(s), element("br")), "a", s), text(s))
	})
}
