package tree_test

import (
	"fmt"
	"reflect"
	"runtime"
	"slices"
	"strings"
	"testing"

	"bobbinet/api"
	"bobbinet/tok"
	"bobbinet/tree"
)

func start(name string, attrs ...string) api.Token {
	return api.Token{Kind: api.Start, Name: name, Attrs: pairs(attrs)}
}

func self(name string, attrs ...string) api.Token {
	return api.Token{Kind: api.Start, Name: name, Attrs: pairs(attrs), Self: true}
}

func end(name string) api.Token {
	return api.Token{Kind: api.End, Name: name}
}

func chars(text string) api.Token {
	return api.Token{Kind: api.Chars, Text: text}
}

func comment(text string) api.Token {
	return api.Token{Kind: api.Comment, Text: text}
}

// pairs returns attributes of names and values.
func pairs(l []string) []api.Attr {
	var attrs []api.Attr
	for i := 0; i < len(l); i += 2 {
		attrs = append(attrs, api.Attr{Name: l[i], Value: l[i+1]})
	}
	return attrs
}

// times returns the tokens so often.
func times(n int, l ...api.Token) []api.Token {
	return slices.Repeat(l, n)
}

// join returns the tokens of all lists.
func join(lists ...[]api.Token) []api.Token {
	return slices.Concat(lists...)
}

func text(s string) api.Node {
	return api.Node{Text: s}
}

func element(name string, parts ...api.Node) api.Node {
	return api.Node{Name: name, Parts: parts}
}

func withAttrs(n api.Node, attrs ...string) api.Node {
	n.Attrs = pairs(attrs)
	return n
}

// within returns the nodes in depth elements within each other.
func within(depth int, name string, parts ...api.Node) api.Node {
	if depth == 1 {
		return element(name, parts...)
	}
	return element(name, within(depth-1, name, parts...))
}

// same tells whether the lists are alike; lists without elements are, nil or not.
func same(a, b []api.Node) bool {
	return slices.EqualFunc(a, b, func(x, y api.Node) bool {
		return x.Name == y.Name && x.Text == y.Text && slices.Equal(x.Attrs, y.Attrs) && same(x.Parts, y.Parts)
	})
}

// shown shortens what a message shows.
func shown(value any) string {
	return fmt.Sprintf("%.400s", fmt.Sprintf("%+v", value))
}

func checkBuild(t *testing.T, l []api.Token, want ...api.Node) {
	t.Helper()
	got, err := tree.Build(l)
	if err != api.OK || !same(got, want) {
		t.Errorf("Build of %d tokens %s = %s, %v, want %s", len(l), shown(l), shown(got), err, shown(want))
	}
	checkExpected(t, l)
}

// checkMarkup is for tokens that are easier to read as markup.
func checkMarkup(t *testing.T, s string, want ...api.Node) {
	t.Helper()
	l, err := tok.Parse(s)
	if err != api.OK {
		t.Fatalf("Parse(%q): %v", s, err)
	}
	checkBuild(t, l, want...)
}

func checkError(t *testing.T, want api.Errno, l ...api.Token) {
	t.Helper()
	got, err := tree.Build(l)
	if err != want || len(got) > 0 {
		t.Errorf("Build of %d tokens %s = %s, %v, want %v", len(l), shown(l), shown(got), err, want)
	}
	checkExpected(t, l)
}

// Below, chapter 5 is written with a table of all nodes that tells which one each is in, and which of them are open.
type row struct {
	node   api.Node
	in     int
	isText bool
	isOpen bool
}

type table []row

// last returns the last open row with one of the names, or with any if there are none, or -1.
func (rows table) last(names ...string) int {
	for i := len(rows) - 1; i >= 0; i-- {
		if rows[i].isOpen && (names == nil || slices.Contains(names, rows[i].node.Name)) {
			return i
		}
	}
	return -1
}

// close closes the row and all that are open within it: those are behind it.
func (rows table) close(from int) {
	for i := range rows {
		rows[i].isOpen = rows[i].isOpen && i < from
	}
}

func (rows table) countOpen() int {
	n := 0
	for _, r := range rows {
		if r.isOpen {
			n++
		}
	}
	return n
}

// nodes returns the nodes in the row.
func (rows table) nodes(in int) []api.Node {
	var l []api.Node
	for i, r := range rows {
		if r.in == in {
			r.node.Parts = rows.nodes(i)
			l = append(l, r.node)
		}
	}
	return l
}

// lastIn returns the last row in the row, or -1.
func (rows table) lastIn(in int) int {
	for i := len(rows) - 1; i >= 0; i-- {
		if rows[i].in == in {
			return i
		}
	}
	return -1
}

var (
	block  = strings.Fields("p div ul ol li h1 h2 table blockquote")
	void   = strings.Fields("br hr img input")
	hiding = strings.Fields("script style")
)

// expectedStart is P5.1 for a Start. The name is that of a script or style whose Chars are ignored.
func expectedStart(rows table, x api.Token) (table, string) {
	if p := rows.last("p"); p >= 0 && slices.Contains(block, x.Name) {
		rows.close(p)
	}
	if li := rows.last("li"); li >= 0 && x.Name == "li" && !(rows.last("ul", "ol") > li) {
		rows.close(li)
	}
	if rows.countOpen() < api.MaxDepth {
		isOpen := !x.Self && !slices.Contains(void, x.Name)
		return append(rows, row{node: api.Node{Name: x.Name, Attrs: x.Attrs}, in: rows.last(), isOpen: isOpen}), ""
	}
	if slices.Contains(hiding, x.Name) && !x.Self {
		return rows, x.Name
	}
	return rows, ""
}

// expectedChars is P5.1 for a Chars.
func expectedChars(rows table, s string) table {
	place := rows.last()
	last := rows.lastIn(place)
	switch {
	case s == "":
	case place >= 0 && slices.Contains(hiding, rows[place].node.Name):
	case last >= 0 && rows[last].isText:
		rows[last].node.Text += s
	default:
		rows = append(rows, row{node: text(s), in: place, isText: true})
	}
	return rows
}

// expected is P5.1.
func expected(l []api.Token) ([]api.Node, api.Errno) {
	if len(l) > 300 {
		return nil, api.ErrSize
	}
	var rows table
	ignored := ""
	for _, x := range l {
		switch x.Kind {
		case api.Start:
			rows, ignored = expectedStart(rows, x)
		case api.End:
			if open := rows.last(x.Name); open >= 0 {
				rows.close(open)
			}
			if x.Name == ignored {
				ignored = ""
			}
		case api.Chars:
			if ignored == "" {
				rows = expectedChars(rows, x.Text)
			}
		case api.Comment:
		default:
			return nil, api.ErrKind
		}
		if len(rows) > 150 {
			return nil, api.ErrSize
		}
	}
	return rows.nodes(-1), api.OK
}

// checkExpected compares Build with the chapter, and Count with what Build returns.
func checkExpected(t *testing.T, l []api.Token) {
	t.Helper()
	want, wantErr := expected(l)
	got, err := tree.Build(l)
	if err != wantErr || !same(got, want) {
		t.Errorf("Build of %d tokens %s = %s, %v, want %s, %v", len(l), shown(l), shown(got), err, shown(want), wantErr)
	}
	nodes, deep := tree.Count(got)
	if nodes != size(want) || deep != depth(want) {
		t.Errorf("Count(%s) = %d, %d, want %d, %d", shown(got), nodes, deep, size(want), depth(want))
	}
	if nodes > 150 || deep > 11 {
		t.Errorf("Build of %d tokens %s returns %d nodes, %d deep", len(l), shown(l), nodes, deep)
	}
}

// size and depth are P5.2, each for itself.
func size(l []api.Node) int {
	n := 0
	for waiting := l; len(waiting) > 0; n++ {
		waiting = slices.Concat(waiting[1:], waiting[0].Parts)
	}
	return n
}

func depth(l []api.Node) int {
	n := 0
	for len(l) > 0 {
		n++
		var below []api.Node
		for _, x := range l {
			below = append(below, x.Parts...)
		}
		l = below
	}
	return n
}

// every calls f with each list of up to most of the tokens behind first.
func every(first, tokens []api.Token, most int, f func(l []api.Token)) {
	f(first)
	if most == 0 {
		return
	}
	for _, x := range tokens {
		every(join(first, []api.Token{x}), tokens, most-1, f)
	}
}

// P5.1: where nodes are appended.
func TestBuild(t *testing.T) {
	checkBuild(t, nil)
	checkBuild(t, []api.Token{})
	checkMarkup(t, "a", text("a"))
	checkMarkup(t, "<p>a<p>b", element("p", text("a")), element("p", text("b")))
	checkMarkup(t, "<p>one<p>two</b>", element("p", text("one")), element("p", text("two")))
	checkMarkup(t, "<b>a<i>b</i>c</b>d", element("b", text("a"), element("i", text("b")), text("c")), text("d"))
	checkMarkup(t, "a<b></b>c<b>d</b><b></b>", text("a"), element("b"), text("c"), element("b", text("d")), element("b"))
	checkMarkup(t, "<a><b><c>x", element("a", element("b", element("c", text("x")))))
	checkMarkup(t, "<b>a<i>b</b>c</i>d", element("b", text("a"), element("i", text("b"))), text("cd"))
	checkMarkup(t, "<b><b>x</b>y</b>z", element("b", element("b", text("x")), text("y")), text("z"))
	checkMarkup(t, " <p> </p>\n", text(" "), element("p", text(" ")), text("\n"))
}

// P5.1: an element has all attributes of its Start, and nothing else of it.
func TestBuildAttrs(t *testing.T) {
	checkMarkup(t, `<b x=1 y=2><i z=3>a</i></b><br y=4><b/ x=5 />`,
		withAttrs(element("b", withAttrs(element("i", text("a")), "z", "3")), "x", "1", "y", "2"),
		withAttrs(element("br"), "y", "4"), withAttrs(element("b"), "x", "5"))
	// What tok.Parse does not return is no different.
	many := strings.Fields(strings.Repeat("a b ", 50) + "A 1 -- \xff")
	for _, x := range []api.Token{start("b", many...), self("b", many...), start("img", many...)} {
		checkBuild(t, []api.Token{x, end("b")}, withAttrs(element(x.Name), many...))
	}
	all := api.Token{Name: "b", Attrs: pairs([]string{"a", "b"}), Self: true, Text: "t"}
	asKind := func(kind int) api.Token {
		x := all
		x.Kind = kind
		return x
	}
	checkBuild(t, []api.Token{asKind(api.Start)}, withAttrs(element("b"), "a", "b"))
	checkBuild(t, []api.Token{asKind(api.Chars), asKind(api.Chars)}, text("tt"))
	checkBuild(t, []api.Token{asKind(api.Comment)})
	checkBuild(t, []api.Token{start("b"), start("i"), asKind(api.End), chars("x")}, element("b", element("i")), text("x"))
	checkBuild(t, []api.Token{{Kind: api.Start, Name: "b", Text: "t"}, chars("x")}, element("b", text("x")))
	checkBuild(t, []api.Token{{Kind: api.Start, Name: "b", Text: "t", Self: true}, chars("x")}, element("b"), text("x"))
}

// P5.1: which names close an open p.
func TestBuildParagraph(t *testing.T) {
	for _, name := range block {
		s := "<" + name + ">"
		checkMarkup(t, "<p>a"+s+"b", element("p", text("a")), element(name, text("b")))
		checkMarkup(t, "<p>a<b>c<i>d"+s+"b", element("p", text("a"), element("b", text("c"), element("i", text("d")))), element(name, text("b")))
		checkMarkup(t, "<b><p>a"+s+"b", element("b", element("p", text("a")), element(name, text("b"))))
		checkMarkup(t, "<b><p>a<i>"+s+"b</b>c", element("b", element("p", text("a"), element("i")), element(name, text("b"))), text("c"))
		checkMarkup(t, "<p>a<"+name+"/>b", element("p", text("a")), element(name), text("b"))
		checkMarkup(t, "<p>a</p>"+s+"b", element("p", text("a")), element(name, text("b")))
		checkMarkup(t, "<p/>"+s+"b", element("p"), element(name, text("b")))
		checkMarkup(t, "<b>"+s+"b", element("b", element(name, text("b"))))
		// An end tag closes nothing but what it is the end of.
		checkMarkup(t, "<p>a</"+name+"x>b", element("p", text("ab")))
	}
	for _, name := range strings.Fields("b h3 td tr pp pre dl ulx form section") {
		checkMarkup(t, "<p>a<"+name+">b", element("p", text("a"), element(name, text("b"))))
	}
	checkBuild(t, []api.Token{start("p"), start("P"), start("DIV"), start("")}, element("p", element("P", element("DIV", element("")))))
	checkBuild(t, []api.Token{start("P"), start("p"), start("div")}, element("P", element("p"), element("div")))
	checkMarkup(t, "<div>a<div>b", element("div", text("a"), element("div", text("b"))))
	checkMarkup(t, "<table><td><p>a<table>b", element("table", element("td", element("p", text("a")), element("table", text("b")))))
}

// P5.1: which li another one closes.
func TestBuildItem(t *testing.T) {
	checkMarkup(t, "<li>a<li>b", element("li", text("a")), element("li", text("b")))
	checkMarkup(t, "<li>a<b>c<li>b", element("li", text("a"), element("b", text("c"))), element("li", text("b")))
	checkMarkup(t, "<li>a<div>c<li>b", element("li", text("a"), element("div", text("c"))), element("li", text("b")))
	checkMarkup(t, "<li>a<li/>b", element("li", text("a")), element("li"), text("b"))
	checkMarkup(t, "<li><p>a<li>b", element("li", element("p", text("a"))), element("li", text("b")))
	checkMarkup(t, "<li>a</li>b<li>c", element("li", text("a")), text("b"), element("li", text("c")))
	for _, list := range []string{"ul", "ol"} {
		s := "<" + list + ">"
		checkMarkup(t, s+"<li>a<li>b", element(list, element("li", text("a")), element("li", text("b"))))
		checkMarkup(t, "<li>a"+s+"<li>b", element("li", text("a"), element(list, element("li", text("b")))))
		checkMarkup(t, "<li>a"+s+"<b><li>b", element("li", text("a"), element(list, element("b", element("li", text("b"))))))
		checkMarkup(t, "<li>a<b>"+s+"<li>b", element("li", text("a"), element("b", element(list, element("li", text("b"))))))
		checkMarkup(t, "<li>a"+s+"<p>c<li>b", element("li", text("a"), element(list, element("p", text("c")), element("li", text("b")))))
		checkMarkup(t, "<li>a"+s+"<li>b<li>c", element("li", text("a"), element(list, element("li", text("b")), element("li", text("c")))))
		checkMarkup(t, "<li>a"+s+"<li>b</"+list+"><li>c", element("li", text("a"), element(list, element("li", text("b")))), element("li", text("c")))
		checkMarkup(t, "<li>a<"+list+"/><li>b", element("li", text("a"), element(list)), element("li", text("b")))
		for _, other := range []string{"ul", "ol"} {
			checkMarkup(t, s+"<"+other+"><li>a<li>b", element(list, element(other, element("li", text("a")), element("li", text("b")))))
			checkMarkup(t, s+"<li><"+other+"><li>a<li>b", element(list, element("li", element(other, element("li", text("a")), element("li", text("b"))))))
			checkMarkup(t, "<li>"+s+"<"+other+"><li>a", element("li", element(list, element(other, element("li", text("a"))))))
		}
	}
	checkMarkup(t, "<li>a<ul2><li>b", element("li", text("a"), element("ul2")), element("li", text("b")))
	checkMarkup(t, "<lix>a<li>b", element("lix", text("a"), element("li", text("b"))))
	checkBuild(t, []api.Token{start("li"), start("UL"), start("li"), start("LI")}, element("li", element("UL")), element("li", element("LI")))
}

// P5.1: what is appended without being opened.
func TestBuildNotOpened(t *testing.T) {
	for _, name := range slices.Concat(void, strings.Fields("b script style p li")) {
		checkBuild(t, []api.Token{chars("x"), self(name), chars("a"), end(name), chars("b")}, text("x"), element(name), text("ab"))
		checkBuild(t, []api.Token{start("i"), self(name), chars("a"), end("i"), chars("b")}, element("i", element(name), text("a")), text("b"))
	}
	for _, name := range void {
		checkMarkup(t, "x<"+name+">a</"+name+">b", text("x"), element(name), text("ab"))
		checkMarkup(t, "<p>x<"+name+"><"+name+">a<p>", element("p", text("x"), element(name), element(name), text("a")), element("p"))
		checkBuild(t, []api.Token{start(strings.ToUpper(name)), chars("a")}, element(strings.ToUpper(name), text("a")))
		checkMarkup(t, "<"+name+"s>a", element(name+"s", text("a")))
	}
	for _, name := range strings.Fields("b link meta area col wbr source textarea title") {
		checkMarkup(t, "<"+name+">a</"+name+">b", element(name, text("a")), text("b"))
	}
}

// P5.1: what an End closes.
func TestBuildEnd(t *testing.T) {
	for _, s := range []string{"</b>", "</p>", "</br>", "</script>", "<!---->"} {
		checkMarkup(t, s)
		checkMarkup(t, s+"a", text("a"))
		checkMarkup(t, "a"+s, text("a"))
		checkMarkup(t, "<i>a"+s+"c</i>"+s+"d", element("i", text("ac")), text("d"))
	}
	checkMarkup(t, "<b>a</b></b>c", element("b", text("a")), text("c"))
	checkMarkup(t, "<b><i><b><u>a</b>c</b>d", element("b", element("i", element("b", element("u", text("a"))), text("c"))), text("d"))
	checkMarkup(t, "<ul><li>a</ul>b", element("ul", element("li", text("a"))), text("b"))
	checkMarkup(t, "<p><b>a</p>c", element("p", element("b", text("a"))), text("c"))
	checkBuild(t, []api.Token{start("b"), start("B"), end("b"), chars("x")}, element("b", element("B")), text("x"))
	checkBuild(t, []api.Token{start("b"), end("B"), end("bb"), end(""), chars("x")}, element("b", text("x")))
}

// P5.1: an element without a name is an element.
func TestBuildEmptyName(t *testing.T) {
	checkBuild(t, []api.Token{start(""), chars("a"), end(""), chars("b")}, element("", text("a")), text("b"))
	checkBuild(t, []api.Token{start(""), start("b"), start(""), end(""), chars("a"), end(""), chars("c")}, element("", element("b", element(""), text("a"))), text("c"))
	checkBuild(t, []api.Token{end(""), chars("a"), end(""), chars("b")}, text("ab"))
	checkBuild(t, []api.Token{start("b"), end(""), chars("a")}, element("b", text("a")))
	// It is no text that others are joined with.
	checkBuild(t, []api.Token{self(""), chars("a")}, element(""), text("a"))
	checkBuild(t, []api.Token{start(""), end(""), chars("a"), chars("b")}, element(""), text("ab"))
	checkBuild(t, []api.Token{chars("a"), self("", "x", "y"), chars("b")}, text("a"), withAttrs(element(""), "x", "y"), text("b"))
	checkBuild(t, []api.Token{chars("a"), start(""), end(""), chars("b"), self(""), self("")}, text("a"), element(""), text("b"), element(""), element(""))
	for _, name := range []string{" ", "#text", "A", "é", "\xff", "<b>", strings.Repeat("x", 1000)} {
		checkBuild(t, []api.Token{start("b"), start(name), chars("a"), end(""), end(name), chars("c")}, element("b", element(name, text("a")), text("c")))
	}
}

// P5.1: which texts are joined.
func TestBuildText(t *testing.T) {
	checkBuild(t, []api.Token{chars("a"), chars("b"), chars("c")}, text("abc"))
	checkBuild(t, []api.Token{chars("a"), comment("x"), chars("b"), end("x"), chars(""), chars("c")}, text("abc"))
	checkBuild(t, []api.Token{start("p"), chars("a"), chars("b"), end("p"), chars("c"), chars("d")}, element("p", text("ab")), text("cd"))
	checkBuild(t, []api.Token{chars("a"), self("b"), chars("c")}, text("a"), element("b"), text("c"))
	checkBuild(t, []api.Token{chars("a"), start("b"), chars("c"), end("b"), chars("d")}, text("a"), element("b", text("c")), text("d"))
	checkBuild(t, []api.Token{chars("a"), start("b"), end("b"), chars("d")}, text("a"), element("b"), text("d"))
	checkBuild(t, []api.Token{start("b"), chars("a"), start("b"), end("b"), end("b"), chars("c")}, element("b", text("a"), element("b")), text("c"))
	checkBuild(t, []api.Token{start("li"), chars("a"), start("li"), chars("b")}, element("li", text("a")), element("li", text("b")))
	checkBuild(t, []api.Token{chars("<b>"), chars("&amp;\x00\xff\r\n")}, text("<b>&amp;\x00\xff\r\n"))
	// An empty text is none, and hides no other.
	checkBuild(t, []api.Token{chars("")})
	checkBuild(t, []api.Token{start("p"), chars(""), end("p"), chars(""), chars("")}, element("p"))
	checkBuild(t, []api.Token{chars(""), chars("a"), chars(""), chars("b"), chars("")}, text("ab"))
}

// P5.1: comments leave nothing.
func TestBuildComment(t *testing.T) {
	checkBuild(t, []api.Token{comment("a"), comment("")})
	checkBuild(t, []api.Token{start("p"), comment("a"), end("p"), comment("b")}, element("p"))
	checkMarkup(t, "<!doctype html><p>a<!--</p>-->b</p><?x?>c", element("p", text("ab")), text("c"))
}

// P5.1: texts directly within a script or style.
func TestBuildHiding(t *testing.T) {
	for _, name := range hiding {
		checkMarkup(t, "a<"+name+">b</"+name+">c", text("a"), element(name), text("c"))
		checkMarkup(t, "<"+name+" x=y>b", withAttrs(element(name), "x", "y"))
		checkMarkup(t, "<"+name+"/>a</"+name+">b", element(name), text("ab"))
		// An element within it has its texts.
		checkBuild(t, []api.Token{start(name), chars("a"), start("b"), chars("c"), end("b"), chars("d"), self("i"), chars("e"), end(name), chars("f")},
			element(name, element("b", text("c")), element("i")), text("f"))
		checkBuild(t, []api.Token{start(name), chars("a"), end("b"), chars("c"), comment("d"), chars("e")}, element(name))
		checkBuild(t, []api.Token{start(name), start(name), chars("a"), end(name), chars("a"), end(name), chars("b")}, element(name, element(name)), text("b"))
		checkBuild(t, []api.Token{start("b"), start(name), chars("a"), end("b"), chars("c")}, element("b", element(name)), text("c"))
		checkBuild(t, []api.Token{start("p"), start(name), chars("a"), start("p"), chars("c")}, element("p", element(name)), element("p", text("c")))
		for _, other := range []string{name + "s", name[1:], strings.ToUpper(name), "textarea", "title"} {
			checkBuild(t, []api.Token{start(other), chars("a"), end(other), chars("b")}, element(other, text("a")), text("b"))
		}
	}
	checkBuild(t, []api.Token{start("script"), end("style"), chars("a")}, element("script"))
}

// P5.1: elements are no deeper within each other than MaxDepth.
func TestBuildDepth(t *testing.T) {
	ten := times(api.MaxDepth, start("b"))
	checkBuild(t, ten, within(10, "b"))
	checkBuild(t, times(300, start("b")), within(10, "b"))
	checkBuild(t, join(ten, []api.Token{chars("a")}), within(10, "b", text("a")))
	for _, x := range []api.Token{start("i", "a", "b"), self("i"), start("br"), self("br"), start("b"), self("b"), start(""), self("script"), self("style"), start("title")} {
		checkBuild(t, join(ten, []api.Token{x}), within(10, "b"))
		checkBuild(t, join(ten, []api.Token{chars("a"), x, chars("c")}), within(10, "b", text("ac")))
		checkExpected(t, join(ten[1:], []api.Token{chars("a"), x, chars("c"), end("i")}))
	}
	checkBuild(t, join(ten[1:], []api.Token{start("br"), self("i"), start("hr"), start("i"), start("u")}), within(9, "b", element("br"), element("i"), element("hr"), element("i")))
	// The one that is left out is not open: its End ends what is.
	checkBuild(t, join(ten, []api.Token{start("b"), end("b"), chars("a")}), within(9, "b", element("b"), text("a")))
	checkBuild(t, join(ten, []api.Token{start("i"), end("i"), chars("a")}), within(10, "b", text("a")))
	checkBuild(t, join(ten, []api.Token{end("b"), start("i"), chars("a")}), within(9, "b", element("b"), element("i", text("a"))))
	checkBuild(t, join(ten, times(10, end("b")), []api.Token{start("i"), chars("a")}), within(10, "b"), element("i", text("a")))
	checkBuild(t, join(times(3, join(ten, times(10, end("b")))...)), within(10, "b"), within(10, "b"), within(10, "b"))
}

// P5.1: what a Start closes is closed even if it is deeper, and makes room for it.
func TestBuildDepthCloses(t *testing.T) {
	checkBuild(t, join(times(9, start("b")), []api.Token{start("p"), start("p"), chars("a")}), within(9, "b", element("p"), element("p", text("a"))))
	checkBuild(t, join(times(9, start("b")), []api.Token{start("li"), start("li"), chars("a")}), within(9, "b", element("li"), element("li", text("a"))))
	checkBuild(t, join([]api.Token{start("p")}, times(9, start("b")), []api.Token{start("div"), chars("a")}), element("p", within(9, "b")), element("div", text("a")))
	checkBuild(t, join([]api.Token{start("li")}, times(9, start("b")), []api.Token{start("li"), chars("a")}), element("li", within(9, "b")), element("li", text("a")))
	checkBuild(t, join([]api.Token{start("li")}, times(9, start("ul")), []api.Token{start("li"), chars("a")}), element("li", within(9, "ul", text("a"))))
	checkBuild(t, join([]api.Token{start("p")}, times(9, start("b")), []api.Token{start("i"), chars("a"), start("p")}), element("p", within(9, "b", text("a"))), element("p"))
}

// P5.1: the Chars of a script or style that is too deep.
func TestBuildDepthHiding(t *testing.T) {
	ten := times(api.MaxDepth, start("b"))
	for _, name := range hiding {
		deep := join(ten, []api.Token{chars("a"), start(name), chars("x")})
		checkBuild(t, deep, within(10, "b", text("a")))
		// Up to the next End with this name, or the next Start.
		checkBuild(t, join(deep, []api.Token{end(name), chars("c")}), within(10, "b", text("ac")))
		checkBuild(t, join(deep, []api.Token{start("i"), chars("c")}), within(10, "b", text("ac")))
		checkBuild(t, join(deep, []api.Token{start("br"), chars("c")}), within(10, "b", text("ac")))
		checkBuild(t, join(deep, []api.Token{self(name), chars("c")}), within(10, "b", text("ac")))
		checkBuild(t, join(deep, []api.Token{start(name), chars("c")}), within(10, "b", text("a")))
		checkBuild(t, join(deep, []api.Token{start(name), chars("c"), end(name), chars("d")}), within(10, "b", text("ad")))
		// Not up to anything else.
		checkBuild(t, join(deep, []api.Token{chars("c"), comment("d"), chars("e"), end("i"), chars("f"), end(""), chars("g")}), within(10, "b", text("a")))
		for _, other := range []string{"script", "style", strings.ToUpper(name), name + "s"} {
			if other != name {
				checkBuild(t, join(deep, []api.Token{end(other), chars("c")}), within(10, "b", text("a")))
			}
		}
		// An End that closes an element does it, and the Chars are ignored there too.
		checkBuild(t, join(deep, []api.Token{end("b"), chars("c")}), within(10, "b", text("a")))
		checkBuild(t, join(deep, times(10, end("b")), []api.Token{chars("c"), end(name), chars("d")}), within(10, "b", text("a")), text("d"))
		checkBuild(t, join(deep, []api.Token{end("b"), start("i"), chars("c")}), within(9, "b", element("b", text("a")), element("i", text("c"))))
		checkBuild(t, join(deep, []api.Token{end("b"), start(name), chars("c"), end(name), chars("d")}), within(9, "b", element("b", text("a")), element(name), text("d")))
		// Its End closes an open element with its name.
		checkBuild(t, join([]api.Token{start(name)}, times(9, start("b")), []api.Token{start(name), chars("a"), end(name), chars("c")}), element(name, within(9, "b")), text("c"))
		// The Start that ends it closes what it closes elsewhere.
		checkBuild(t, join([]api.Token{start("p")}, times(9, start("b")), []api.Token{start(name), chars("a"), start("div"), chars("c")}), element("p", within(9, "b")), element("div", text("c")))
		// One that closes itself has no Chars, and one that is not too deep is opened.
		checkBuild(t, join(ten, []api.Token{self(name), chars("c")}), within(10, "b", text("c")))
		checkBuild(t, join(ten[1:], []api.Token{start(name), chars("c"), start("i"), chars("d"), end("b"), chars("e")}), within(8, "b", element("b", element(name)), text("e")))
	}
	for _, name := range strings.Fields("scripts STYLE textarea title b") {
		checkBuild(t, join(ten, []api.Token{start(name), chars("c")}), within(10, "b", text("c")))
	}
}

// P5.1: how many tokens there may be.
func TestBuildTokens(t *testing.T) {
	checkBuild(t, times(300, comment("")))
	checkBuild(t, times(300, chars("")))
	checkBuild(t, times(300, chars("a")), text(strings.Repeat("a", 300)))
	checkBuild(t, times(150, start("b"), end("b")), slices.Repeat([]api.Node{element("b")}, 150)...)
	for _, x := range []api.Token{comment(""), chars(""), chars("a"), end("b"), start("b"), {}} {
		checkError(t, api.ErrSize, times(301, x)...)
	}
	// This is ahead of the kinds.
	checkError(t, api.ErrSize, join([]api.Token{{}}, times(300, comment("")))...)
	checkError(t, api.ErrKind, join([]api.Token{{}}, times(299, comment("")))...)
	checkError(t, api.ErrKind, join(times(299, comment("")), []api.Token{{}})...)
}

// P5.1: how many nodes there may be.
func TestBuildNodes(t *testing.T) {
	full := times(150, self("b"))
	nodes := slices.Repeat([]api.Node{element("b")}, 150)
	checkBuild(t, full, nodes...)
	for _, x := range []api.Token{self("b"), start("b"), start("br"), start("script"), start(""), chars("a")} {
		checkError(t, api.ErrSize, join(full, []api.Token{x})...)
		checkError(t, api.ErrSize, join(full, []api.Token{x, {}})...)
		checkError(t, api.ErrKind, join(full, []api.Token{{}, x})...)
	}
	checkBuild(t, join(full, []api.Token{end("b"), chars(""), comment("a")}), nodes...)
	checkError(t, api.ErrKind, join(full, []api.Token{{}})...)
	// Texts are nodes; those that are joined or left out are none.
	mixed := times(75, chars("a"), self("b"))
	checkBuild(t, mixed, slices.Repeat([]api.Node{text("a"), element("b")}, 75)...)
	checkError(t, api.ErrSize, join(mixed, []api.Token{chars("a")})...)
	checkBuild(t, join(full[1:], times(100, chars("a"))), append(slices.Clone(nodes[1:]), text(strings.Repeat("a", 100)))...)
	checkError(t, api.ErrSize, join(full[1:], []api.Token{chars("a"), self("b")})...)
	checkBuild(t, join(full[1:], []api.Token{start("script"), chars("a"), chars("b")}), append(slices.Clone(nodes[1:]), element("script"))...)
	// Nodes are counted wherever they are, and those that are too deep are none.
	ten := times(10, start("b"))
	checkBuild(t, join(ten, times(290, start("b"))), within(10, "b"))
	checkBuild(t, join(ten, times(140, chars("a"), start("b"))), within(10, "b", text(strings.Repeat("a", 140))))
	checkBuild(t, join(full[:140], ten, times(50, self("i"), start("style"), chars("c"))), append(slices.Clone(nodes[:140]), within(10, "b"))...)
	checkError(t, api.ErrSize, join(full[:140], ten, []api.Token{chars("a")})...)
	checkError(t, api.ErrSize, join(full[:141], ten)...)
	checkBuild(t, join(times(9, start("i")), full[:141]), within(9, "i", nodes[:141]...))
	checkError(t, api.ErrSize, join(times(9, start("i")), full[:142])...)
}

// P5.1: which kinds there are.
func TestBuildKinds(t *testing.T) {
	for _, kind := range []int{0, -1, 5, 6, 257, -1 << 63, 1<<63 - 1} {
		x := api.Token{Kind: kind, Name: "b", Text: "t"}
		checkError(t, api.ErrKind, x)
		checkError(t, api.ErrKind, start("b"), chars("a"), x)
		checkError(t, api.ErrKind, x, start("b"), chars("a"))
		checkError(t, api.ErrKind, join(times(10, start("b")), []api.Token{start("script"), x})...)
		checkError(t, api.ErrKind, start("script"), x)
	}
}

// P5.1 as it is written above, for every list of some tokens.
func TestEveryList(t *testing.T) {
	check := func(l []api.Token) { checkExpected(t, l) }
	every(nil, []api.Token{start("p"), start("div"), start("b"), end("p"), end("b"), chars("x"), comment("c")}, 5, check)
	every(nil, []api.Token{start("li"), start("ul"), start("ol"), start("p"), start("b"), end("li"), end("ul")}, 5, check)
	every(nil, []api.Token{start(""), self(""), end(""), chars("x"), chars(""), start("script"), end("script"), start("br"), {}}, 4, check)
}

// P5.1 as it is written above, for every list of some tokens where no element can be opened, or only one.
func TestEveryDeepList(t *testing.T) {
	check := func(l []api.Token) { checkExpected(t, l) }
	tokens := []api.Token{start("script"), self("script"), end("script"), start("style"), end("style"), start("i"), end("b"), chars("x"), start("li"), start("p")}
	for _, n := range []int{9, 10} {
		every(times(n, start("b")), tokens, 4, check)
		every(join([]api.Token{start("p")}, times(n-1, start("b"))), tokens, 3, check)
		every(join([]api.Token{start("li"), start("script")}, times(n-2, start("b"))), tokens, 3, check)
		every(join([]api.Token{start("li"), start("ul")}, times(n-2, start("b"))), tokens, 3, check)
	}
}

// P5.1 as it is written above, for long lists that follow a rule, with few nodes and with too many.
func TestBuildLongLists(t *testing.T) {
	tokens := []api.Token{
		start("p"), end("p"), chars("x"), start("ul"), start("li"), end("ul"), start("b", "a", "1"), end("b"), chars("y"), start("script"), end("script"),
		start("br"), self("i"), comment("c"), start("style"), chars("z"), start("div"), end("div"), start("b"), start("i"), start("table"), end("i"), chars(""),
	}
	state := uint32(1)
	next := func(below int) int {
		state = state*1664525 + 1013904223
		return int(state>>8) % below
	}
	for round := range 3000 {
		var l []api.Token
		for range round % 301 {
			l = append(l, tokens[next(2+round%(len(tokens)-1))])
		}
		checkExpected(t, l)
	}
}

// allLists calls f with each list of nodes in l, the inner ones first.
func allLists(l []api.Node, f func(l []api.Node)) {
	for _, n := range l {
		allLists(n.Parts, f)
	}
	f(l)
}

// clone returns a copy that shares nothing.
func clone(l []api.Node) []api.Node {
	var copied []api.Node
	for _, n := range l {
		n.Attrs = slices.Clone(n.Attrs)
		n.Parts = clone(n.Parts)
		copied = append(copied, n)
	}
	return copied
}

func sample() []api.Token {
	l := join(
		[]api.Token{start("p", "a", "1", "b", "2", "c", "3"), chars("x"), self("br", "d", "4"), chars("y"), start("div", "e", "5"), start("ul"), start("li"), start("li"), chars("z"), chars("z"), end("ul"), start("script"), chars("s"), end("script")},
		times(3, start("b", "f", "6"), self("i", "g", "7"), chars("t"), end("b")),
	)
	l[0].Attrs = l[0].Attrs[:2]
	return l
}

// The list that is passed stays as it is, with its spare capacity, and is not retained.
func TestBuildLeavesItsList(t *testing.T) {
	all := sample()
	for n := range len(all) + 1 {
		got, _ := tree.Build(all[:n])
		want := clone(got)
		allLists(got, func(l []api.Node) {
			for i := range l {
				attrs := l[i].Attrs[:cap(l[i].Attrs)]
				for j := range attrs {
					attrs[j] = api.Attr{Name: "changed"}
				}
			}
			clear(l[:cap(l)])
		})
		if !reflect.DeepEqual(all, sample()) || !reflect.DeepEqual(all[0].Attrs[:3], sample()[0].Attrs[:3]) {
			t.Fatalf("%d tokens: the list became %+v", n, all)
		}
		passed := sample()[:n]
		got, _ = tree.Build(passed)
		for i := range passed {
			attrs := passed[i].Attrs[:cap(passed[i].Attrs)]
			for j := range attrs {
				attrs[j] = api.Attr{Name: "changed"}
			}
			passed[i] = api.Token{}
		}
		if !same(got, want) {
			t.Fatalf("%d tokens: the result became %+v, want %+v", n, got, want)
		}
	}
}

// The lists of a result share nothing with each other, and nothing with those of another result.
func TestBuildSharesNothing(t *testing.T) {
	one := start("b", "a", "1", "b", "2")
	for _, l := range [][]api.Token{sample(), {one, one, one, end("b"), one}, times(20, self("i", "a", "1")), times(30, start("p"), chars("x"))} {
		got, _ := tree.Build(l)
		other, _ := tree.Build(l)
		want := clone(got)
		allLists(got, func(l []api.Node) {
			spare := l[len(l):cap(l)]
			for i := range spare {
				spare[i] = element("changed")
			}
			for i := range l {
				spare := l[i].Attrs[len(l[i].Attrs):cap(l[i].Attrs)]
				for j := range spare {
					spare[j].Name = "changed"
				}
			}
		})
		if !same(got, want) {
			t.Errorf("the result became %+v, want %+v", got, want)
		}
		// Each list of attributes is changed, and only it is.
		marked := 0
		allLists(got, func(l []api.Node) {
			for i := range l {
				for j := range l[i].Attrs {
					if l[i].Attrs[j].Name == "marked" {
						t.Fatalf("attributes are shared in %+v", got)
					}
					l[i].Attrs[j].Name = "marked"
					marked++
				}
			}
		})
		if !same(other, want) {
			t.Errorf("another result became %+v, want %+v", other, want)
		}
	}
}

// allocated returns how many bytes f allocates.
func allocated(f func()) uint64 {
	var before, after runtime.MemStats
	runtime.ReadMemStats(&before)
	f()
	runtime.ReadMemStats(&after)
	return after.TotalAlloc - before.TotalAlloc
}

// P5.1: many long texts are joined at once, not one after the other.
func TestBuildLongText(t *testing.T) {
	long := strings.Repeat("x", 100000)
	want := strings.Repeat(long, 300)
	var got []api.Node
	size := allocated(func() { got, _ = tree.Build(times(300, chars(long))) })
	if !same(got, []api.Node{text(want)}) {
		t.Errorf("Build of 300 texts returns %d nodes", len(got))
	}
	if size > 4*uint64(len(want)) {
		t.Errorf("Build allocates %d bytes", size)
	}
}

func checkCount(t *testing.T, wantNodes, wantDeep int, l ...api.Node) {
	t.Helper()
	before := clone(l)
	if nodes, deep := tree.Count(l); nodes != wantNodes || deep != wantDeep {
		t.Errorf("Count of %d nodes %s = %d, %d, want %d, %d", len(l), shown(l), nodes, deep, wantNodes, wantDeep)
	}
	if !same(l, before) {
		t.Errorf("the list became %s, want %s", shown(l), shown(before))
	}
}

// P5.2.
func TestCount(t *testing.T) {
	checkCount(t, 0, 0)
	checkCount(t, 0, 0, []api.Node{}...)
	checkCount(t, 1, 1, text("a"))
	checkCount(t, 1, 1, element("b"))
	checkCount(t, 1, 1, api.Node{})
	checkCount(t, 1, 1, api.Node{Parts: []api.Node{}})
	checkCount(t, 2, 2, element("p", text("a")))
	checkCount(t, 3, 1, text("a"), element("b"), text("c"))
	checkCount(t, 4, 3, element("b", element("i", text("a"))), text("c"))
	// The deepest one counts, wherever it is.
	checkCount(t, 6, 3, text("a"), element("b", element("i", text("a")), text("c")), text("d"))
	checkCount(t, 6, 3, element("b", text("c"), element("i", text("a"))), element("b", text("d")))
	checkCount(t, 6, 3, element("b", text("d")), element("b", text("c"), element("i", text("a"))))
	checkCount(t, 10, 4, element("b", within(3, "i"), within(2, "i"), within(3, "i")), text("a"))
	// Attributes are no nodes.
	checkCount(t, 2, 2, withAttrs(element("b", withAttrs(element("i"), "a", "1")), "a", "1", "b", "2"))
	// Nodes need not be valid: what is in a text counts, too.
	checkCount(t, 3, 2, api.Node{Text: "a", Parts: []api.Node{text("b"), text("c")}})
	checkCount(t, 4, 4, within(4, ""))
}

// P5.2: there is no limit to the nodes.
func TestCountMany(t *testing.T) {
	checkCount(t, 100000, 1, slices.Repeat([]api.Node{text("a")}, 100000)...)
	var deep []api.Node
	for range 1 << 16 {
		deep = []api.Node{{Name: "b", Parts: deep}}
	}
	if nodes, n := tree.Count(deep); nodes != 1<<16 || n != 1<<16 {
		t.Errorf("Count = %d, %d, want %d twice", nodes, n, 1<<16)
	}
	l := []api.Node{text("a")}
	want := 1
	for range 10 {
		l = []api.Node{{Name: "b", Parts: l}, {Name: "i", Parts: clone(l)}}
		want = 2 + 2*want
	}
	checkCount(t, want, 11, l...)
}

func FuzzBuild(f *testing.F) {
	f.Add("<p>a<p>b<br>c</b><ul><li>d<li>e</ul>f<script>g</script>")
	f.Add(strings.Repeat("<b>", 10) + "<script>a</b>b</script>c<style>d<i>e")
	f.Add("<li><ul><p><li><table></ul><li/>x<!---->y")
	f.Fuzz(func(t *testing.T, s string) {
		if l, err := tok.Parse(s); err == api.OK {
			checkExpected(t, l)
		}
	})
}
