package emit_test

import (
	"reflect"
	"regexp"
	"runtime"
	"strings"
	"testing"

	"bobbinet/api"
	"bobbinet/emit"
	"bobbinet/tok"
)

func start(name string, attrs ...string) api.Token {
	t := api.Token{Kind: api.Start, Name: name}
	for i := 0; i < len(attrs); i += 2 {
		t.Attrs = append(t.Attrs, api.Attr{Name: attrs[i], Value: attrs[i+1]})
	}
	return t
}

func self(name string, attrs ...string) api.Token {
	t := start(name, attrs...)
	t.Self = true
	return t
}

func end(name string) api.Token {
	return api.Token{Kind: api.End, Name: name}
}

func chars(text string) api.Token {
	return api.Token{Kind: api.Chars, Text: text}
}

func comment(text string) api.Token {
	return api.Token{Kind: api.Comment, Text: text}
}

// named returns attributes with these names.
func named(names ...string) []api.Attr {
	var attrs []api.Attr
	for _, name := range names {
		attrs = append(attrs, api.Attr{Name: name, Value: "v"})
	}
	return attrs
}

// times returns the tokens so often.
func times(n int, l ...api.Token) []api.Token {
	var all []api.Token
	for range n {
		all = append(all, l...)
	}
	return all
}

// same tells whether the lists are alike; lists without elements are, nil or not.
func same(a, b []api.Token) bool {
	if len(a) != len(b) {
		return false
	}
	for i := range a {
		x, y := a[i], b[i]
		if len(x.Attrs) == 0 && len(y.Attrs) == 0 {
			x.Attrs, y.Attrs = nil, nil
		}
		if !reflect.DeepEqual(x, y) {
			return false
		}
	}
	return true
}

// shown returns what a message shows of the tokens.
func shown(l []api.Token) []api.Token {
	return l[:min(len(l), 5)]
}

// checkError is for lists that Check refuses: Text then refuses them too.
func checkError(t *testing.T, want api.Errno, l ...api.Token) {
	t.Helper()
	if got := emit.Check(l); got != want {
		t.Errorf("Check(%d tokens, %+v) = %v, want %v", len(l), shown(l), got, want)
	}
	if text, err := emit.Text(l); text != "" || err != want {
		t.Errorf("Text(%d tokens, %+v) = %.50q, %v, want %v", len(l), shown(l), text, err, want)
	}
}

// checkText is for lists that are serialized, and checks that they are parsed again.
func checkText(t *testing.T, want string, l ...api.Token) {
	t.Helper()
	if err := emit.Check(l); err != api.OK {
		t.Errorf("Check(%d tokens, %+v) = %v", len(l), shown(l), err)
	}
	if text, err := emit.Text(l); text != want || err != api.OK {
		t.Errorf("Text(%d tokens, %+v) = %q, %v, want %q", len(l), shown(l), text, err, want)
	}
	if got, err := tok.Parse(want); !same(got, l) || err != api.OK {
		t.Errorf("Parse(%q) = %+v, %v, want %+v", want, got, err, l)
	}
}

// checkLong is for lists that Check accepts, and whose text is too long.
func checkLong(t *testing.T, l ...api.Token) {
	t.Helper()
	if err := emit.Check(l); err != api.OK {
		t.Errorf("Check(%d tokens) = %v", len(l), err)
	}
	if text, err := emit.Text(l); text != "" || err != api.ErrSize {
		t.Errorf("Text(%d tokens) = %.50q, %v, want ErrSize", len(l), text, err)
	}
}

// Below, chapter 4 is written as the list of its errors, all of which are found before the first one is taken.
var (
	namePattern = regexp.MustCompile(`^[a-z][a-z0-9-]{0,11}$`)
	rawPattern  = regexp.MustCompile(`^(?:script|style|textarea|title)$`)
	forText     = strings.NewReplacer("&", "&amp;", "<", "&lt;", ">", "&gt;")
	forValue    = strings.NewReplacer("&", "&amp;", "<", "&lt;", ">", "&gt;", "\"", "&quot;")
)

type failure struct {
	broken bool
	err    api.Errno
}

// failures is P4.1 for the token x between the tokens previous and next, which have no kind at the ends of the list.
func failures(previous, x, next api.Token) []failure {
	isStart, isEnd, isChars, isComment := x.Kind == 1, x.Kind == 2, x.Kind == 3, x.Kind == 4
	isTag := isStart || isEnd
	counts := map[string]int{}
	badName, twice := false, false
	for _, a := range x.Attrs {
		badName = badName || !namePattern.MatchString(a.Name)
		counts[a.Name]++
		twice = twice || counts[a.Name] > 1
	}
	return []failure{
		{x.Kind < 1 || x.Kind > 4, api.ErrKind},
		{isTag && !namePattern.MatchString(x.Name), api.ErrName},
		{isTag && badName, api.ErrName},
		{isTag && len(x.Attrs) > 4, api.ErrSize},
		{isTag && twice, api.ErrTwice},
		{isChars && x.Text == "", api.ErrForm},
		{isComment, api.ErrForm},
		{isEnd && (len(x.Attrs) > 0 || x.Self || x.Text != ""), api.ErrForm},
		{isStart && x.Text != "", api.ErrForm},
		{isChars && (x.Name != "" || len(x.Attrs) > 0 || x.Self), api.ErrForm},
		{isChars && previous.Kind == 3, api.ErrForm},
		{isStart && rawPattern.MatchString(x.Name) && (next.Kind != 2 || next.Name != x.Name), api.ErrForm},
	}
}

// expectedError is P4.1.
func expectedError(l []api.Token) api.Errno {
	if len(l) > 300 {
		return api.ErrSize
	}
	for i, x := range l {
		var previous, next api.Token
		if i > 0 {
			previous = l[i-1]
		}
		if i < len(l)-1 {
			next = l[i+1]
		}
		for _, f := range failures(previous, x, next) {
			if f.broken {
				return f.err
			}
		}
	}
	return api.OK
}

// expectedText is P4.2 for valid tokens, whatever the length.
func expectedText(l []api.Token) string {
	text := ""
	for _, x := range l {
		switch x.Kind {
		case api.Start:
			text += "<" + x.Name
			for _, a := range x.Attrs {
				text += " " + a.Name + "=\"" + forValue.Replace(a.Value) + "\""
			}
			text += map[bool]string{false: ">", true: "/>"}[x.Self]
		case api.End:
			text += "</" + x.Name + ">"
		default:
			text += forText.Replace(x.Text)
		}
	}
	return text
}

func checkExpected(t *testing.T, l ...api.Token) {
	t.Helper()
	if err := expectedError(l); err != api.OK {
		checkError(t, err, l...)
	} else if text := expectedText(l); len(text) > 600 {
		checkLong(t, l...)
	} else {
		checkText(t, text, l...)
	}
}

// every calls f with each list of up to most of the pieces.
func every(pieces []api.Token, most int, f func(l []api.Token)) {
	var extend func(l []api.Token, left int)
	extend = func(l []api.Token, left int) {
		f(l)
		if left == 0 {
			return
		}
		for _, piece := range pieces {
			extend(append(l[:len(l):len(l)], piece), left-1)
		}
	}
	extend(nil, most)
}

// P4.1: the number of tokens precedes all that is wrong with them.
func TestCheckSize(t *testing.T) {
	if err := emit.Check(times(api.MaxTokens, end("a"))); err != api.OK {
		t.Errorf("Check of MaxTokens tokens = %v", err)
	}
	checkError(t, api.ErrSize, times(api.MaxTokens+1, end("a"))...)
	checkError(t, api.ErrSize, times(api.MaxTokens+1, api.Token{})...)
	checkError(t, api.ErrSize, times(api.MaxTokens+1, end("A"))...)
	checkError(t, api.ErrSize, times(api.MaxTokens+1, chars("a"))...)
	checkError(t, api.ErrSize, times(100000, comment(""))...)
	checkError(t, api.ErrKind, append(times(api.MaxTokens-1, end("a")), api.Token{})...)
	checkError(t, api.ErrKind, times(api.MaxTokens, api.Token{})...)
}

// P4.1: kinds that there are not, which precede all else that is wrong with the token.
func TestCheckKind(t *testing.T) {
	for _, kind := range []int{0, 5, 6, -1, -3, 1 << 8, 1<<8 + 1, 1 << 32, 1<<32 + 1, 1<<32 + 3, -1<<63 + 1, -1 << 63, 1<<63 - 1} {
		checkError(t, api.ErrKind, api.Token{Kind: kind})
		checkError(t, api.ErrKind, api.Token{Kind: kind, Name: "a"})
		checkError(t, api.ErrKind, api.Token{Kind: kind, Text: "a"})
		checkError(t, api.ErrKind, api.Token{Kind: kind, Name: "A", Attrs: named("B", "B"), Self: true, Text: "a"})
		checkError(t, api.ErrKind, start("a"), chars("b"), api.Token{Kind: kind}, end("a"))
	}
}

// names are names, badNames are none.
var (
	names = []string{
		"a", "z", "a0", "a9", "a-", "z-z", "h1", "br", "a--", "a---0", "scripts", "script-", "styl", "titles",
		"abcdefghijkl", "mnopqrstuvwx", "yz0123456789", "a-----------", "a00000000000",
	}
	badNames = []string{
		"", "A", "Z", "aB", "aZ", "0", "9", "1a", "-", "-a", "--", " ", " a", "a ", "a b", "a_", "_a", "a.b", "a:b", "a/", "/a",
		"a>", "<a", "a=", "a\"", "a'", "a&", "a\t", "a\n", "\na", "a\r", "a\x00", "\x00", "`", "{", "a`", "a{", "a@", "a[", "a,", "a;",
		"\xff", "a\xff", "a\x80", "\xe1", "é", "aé", "\u017f", "a\u017f", "\u212a", "a\uff11", "\u0660", "a\u0660", "a\u2011b", "\ufffd", "a\ufffd",
		"abcdefghijklm", "a------------", "a000000000000", "abcdefghijkl-", "abcdefghijkl ", "abcdefghijké", strings.Repeat("a", 24), strings.Repeat("a", 100000),
	}
)

// P4.1: the names of tags and attributes.
func TestCheckNames(t *testing.T) {
	for _, name := range names {
		checkText(t, "<"+name+">", start(name))
		checkText(t, "</"+name+">", end(name))
		checkText(t, "<a "+name+"=\"v\"/>", self("a", name, "v"))
		// Names of elements and attributes need not differ.
		checkText(t, "<"+name+" "+name+"=\"\">", start(name, name, ""))
	}
	for _, name := range badNames {
		checkError(t, api.ErrName, start(name))
		checkError(t, api.ErrName, self(name))
		checkError(t, api.ErrName, end(name))
		checkError(t, api.ErrName, start("a", name, "v"))
		checkError(t, api.ErrName, start("a", "b", "v", name, "v"))
		checkError(t, api.ErrName, start("a", name, "v", "b", "v"))
		checkError(t, api.ErrName, api.Token{Kind: api.End, Name: "a", Attrs: named(name)})
		checkError(t, api.ErrName, api.Token{Kind: api.End, Name: "a", Attrs: named("b", "c", name)})
	}
}

// P4.1: every byte in a name, in front and behind.
func TestCheckNameBytes(t *testing.T) {
	const letters, others = "abcdefghijklmnopqrstuvwxyz", "0123456789-"
	for c := range 256 {
		s := string([]byte{byte(c)})
		if strings.Contains(letters, s) {
			checkText(t, "<"+s+">", start(s))
		} else {
			checkError(t, api.ErrName, start(s))
			checkError(t, api.ErrName, start("a", s, ""))
		}
		for _, name := range []string{s + "b", "a" + s, "a" + s + "b", "a-0" + s} {
			switch {
			case strings.Contains(letters, s), strings.Contains(others, s) && name[0] == 'a':
				checkText(t, "</"+name+">", end(name))
				checkText(t, "<a "+name+"=\"\">", start("a", name, ""))
			default:
				checkError(t, api.ErrName, end(name))
				checkError(t, api.ErrName, start("a", name, ""))
			}
		}
	}
}

// P4.1: the number of attributes, and equal names of them.
func TestCheckAttrs(t *testing.T) {
	for _, kind := range []int{api.Start, api.End} {
		tag := func(names ...string) api.Token { return api.Token{Kind: kind, Name: "x", Attrs: named(names...)} }
		checkError(t, api.ErrSize, tag("a", "b", "c", "d", "e"))
		checkError(t, api.ErrSize, tag("a", "b", "c", "d", "e", "f", "g"))
		checkError(t, api.ErrTwice, tag("a", "a"))
		checkError(t, api.ErrTwice, tag("a", "b", "a"))
		checkError(t, api.ErrTwice, tag("b", "a", "a"))
		checkError(t, api.ErrTwice, tag("a", "a", "b"))
		checkError(t, api.ErrTwice, tag("a", "b", "c", "a"))
		checkError(t, api.ErrTwice, tag("a", "b", "c", "c"))
		checkError(t, api.ErrTwice, tag("a", "b", "c", "b"))
		checkError(t, api.ErrTwice, tag("a", "a", "a", "a"))
		// A name that is none precedes the number, and the number precedes equal names, wherever they are.
		checkError(t, api.ErrName, tag("a", "b", "c", "d", "E"))
		checkError(t, api.ErrName, tag("a", "b", "c", "d", "e", ""))
		checkError(t, api.ErrName, tag("A", "b", "c", "d", "e"))
		checkError(t, api.ErrSize, tag("a", "a", "c", "d", "e"))
		checkError(t, api.ErrSize, tag("a", "b", "c", "d", "d"))
		checkError(t, api.ErrName, tag("a", "a", "B"))
		checkError(t, api.ErrName, tag("B", "a", "a"))
		checkError(t, api.ErrName, tag("A", "A"))
		checkError(t, api.ErrName, tag("a", "a", "a", "a", "a", "A"))
	}
	checkText(t, `<x a="" b="" c="" d="">`, start("x", "a", "", "b", "", "c", "", "d", ""))
	checkText(t, `<x d="1" c="1" b="1" a="1"/>`, self("x", "d", "1", "c", "1", "b", "1", "a", "1"))
	checkText(t, `<x a="a" aa="a" a-="a">`, start("x", "a", "a", "aa", "a", "a-", "a"))
	// Different tags may have attributes of the same name, with different values of one.
	checkText(t, `<x a="1"><x a="2">`, start("x", "a", "1"), start("x", "a", "2"))
	many := api.Token{Kind: api.Start, Name: "x"}
	for range 100000 {
		many.Attrs = append(many.Attrs, api.Attr{Name: "a"})
	}
	checkError(t, api.ErrSize, many)
}

// P4.1: what a token of each kind must have, or must not.
func TestCheckForm(t *testing.T) {
	checkError(t, api.ErrForm, chars(""))
	checkError(t, api.ErrForm, start("a"), chars(""), end("a"))
	checkError(t, api.ErrForm, comment(""))
	checkError(t, api.ErrForm, comment("a"))
	checkError(t, api.ErrForm, api.Token{Kind: api.Comment, Name: "A", Attrs: named("B", "B"), Self: true, Text: "a"})
	checkError(t, api.ErrForm, start("a"), comment("b"), end("a"))

	checkError(t, api.ErrForm, api.Token{Kind: api.End, Name: "a", Attrs: named("b")})
	checkError(t, api.ErrForm, api.Token{Kind: api.End, Name: "a", Attrs: named("a", "b", "c", "d")})
	checkError(t, api.ErrForm, api.Token{Kind: api.End, Name: "a", Self: true})
	checkError(t, api.ErrForm, api.Token{Kind: api.End, Name: "a", Text: "b"})
	checkError(t, api.ErrForm, api.Token{Kind: api.End, Name: "a", Text: " "})
	checkError(t, api.ErrForm, api.Token{Kind: api.Start, Name: "a", Text: "b"})
	checkError(t, api.ErrForm, api.Token{Kind: api.Start, Name: "a", Attrs: named("b"), Self: true, Text: "b"})

	checkError(t, api.ErrForm, api.Token{Kind: api.Chars, Text: "a", Name: "b"})
	checkError(t, api.ErrForm, api.Token{Kind: api.Chars, Text: "a", Name: "B"})
	checkError(t, api.ErrForm, api.Token{Kind: api.Chars, Text: "a", Attrs: named("b")})
	checkError(t, api.ErrForm, api.Token{Kind: api.Chars, Text: "a", Attrs: named("B", "", "c", "c", "c", "c")})
	checkError(t, api.ErrForm, api.Token{Kind: api.Chars, Text: "a", Self: true})
	// A list without elements is none, nil or not.
	checkText(t, "<a></a>b", api.Token{Kind: api.Start, Name: "a", Attrs: []api.Attr{}}, api.Token{Kind: api.End, Name: "a", Attrs: []api.Attr{}}, api.Token{Kind: api.Chars, Text: "b", Attrs: []api.Attr{}})
	// The names of a tag precede its form.
	checkError(t, api.ErrName, api.Token{Kind: api.End, Name: "A", Attrs: named("b"), Self: true, Text: "b"})
	checkError(t, api.ErrTwice, api.Token{Kind: api.End, Name: "a", Attrs: named("b", "b"), Self: true, Text: "b"})
	checkError(t, api.ErrSize, api.Token{Kind: api.Start, Name: "a", Attrs: named("b", "b", "b", "b", "b"), Text: "b"})
}

// P4.1: a Chars directly behind a Chars.
func TestCheckCharsTwice(t *testing.T) {
	checkError(t, api.ErrForm, chars("a"), chars("b"))
	checkError(t, api.ErrForm, chars("a"), chars("a"), chars("a"))
	checkError(t, api.ErrForm, start("p"), chars("a"), chars("b"), end("p"))
	checkError(t, api.ErrForm, chars("a"), chars("b"), api.Token{})
	checkError(t, api.ErrForm, chars(""), api.Token{})
	checkError(t, api.ErrKind, api.Token{}, chars("a"), chars("b"))
	checkText(t, "a<b>c</b>d", chars("a"), start("b"), chars("c"), end("b"), chars("d"))
	checkText(t, "a<br/>b", chars("a"), self("br"), chars("b"))
	checkText(t, "a</b>c", chars("a"), end("b"), chars("c"))
}

// P4.1: the four elements whose text is raw have none.
func TestCheckRaw(t *testing.T) {
	for _, name := range []string{"script", "style", "textarea", "title"} {
		checkText(t, "<"+name+"></"+name+">", start(name), end(name))
		checkText(t, "<"+name+"/></"+name+">", self(name), end(name))
		checkText(t, "<"+name+" a=\"b\"/></"+name+">", self(name, "a", "b"), end(name))
		checkText(t, "</"+name+">", end(name))
		checkText(t, "</"+name+">x</"+name+">", end(name), chars("x"), end(name))
		checkText(t, "a<p><"+name+"></"+name+"></"+name+">b", chars("a"), start("p"), start(name), end(name), end(name), chars("b"))
		checkText(t, "<p "+name+"=\"\">a", start("p", name, ""), chars("a"))
		checkText(t, "<"+name+"s>a<"+name[1:]+">b", start(name+"s"), chars("a"), start(name[1:]), chars("b"))

		checkError(t, api.ErrForm, start(name))
		checkError(t, api.ErrForm, self(name))
		checkError(t, api.ErrForm, start("p"), start(name))
		checkError(t, api.ErrForm, start(name), end("p"))
		checkError(t, api.ErrForm, start(name), end(name+"s"))
		checkError(t, api.ErrForm, start(name), end("p"), end(name))
		checkError(t, api.ErrForm, start(name), chars("a"), end(name))
		checkError(t, api.ErrForm, start(name), comment("a"), end(name))
		checkError(t, api.ErrForm, start(name), start(name), end(name))
		checkError(t, api.ErrForm, start(name), self(name))
		checkError(t, api.ErrForm, start(name), start(name))
		checkError(t, api.ErrForm, end(name), start(name))
		checkError(t, api.ErrForm, start(name), api.Token{Kind: api.Chars, Name: name, Text: "a"})
		checkError(t, api.ErrForm, start(name), end(name), start(name))
		// The tokens are checked in their order.
		checkError(t, api.ErrForm, start(name), api.Token{})
		checkError(t, api.ErrForm, start(name), end("A"))
		checkError(t, api.ErrForm, start(name), api.Token{Kind: api.Start, Name: name, Attrs: named("A")})
		checkError(t, api.ErrName, start(name), api.Token{Kind: api.End, Name: name, Attrs: named("A")})
		checkError(t, api.ErrForm, start(name), api.Token{Kind: api.End, Name: name, Attrs: named("a")})
		checkError(t, api.ErrForm, start(name), api.Token{Kind: api.End, Name: name, Self: true})
		checkError(t, api.ErrName, start(name, "A", ""))
		checkError(t, api.ErrTwice, start(name, "a", "", "a", ""))
		checkError(t, api.ErrName, start(strings.ToUpper(name)))
	}
	checkError(t, api.ErrForm, start("script"), end("style"))
	checkError(t, api.ErrForm, start("title"), end("textarea"))
}

// P4.1: the first token with an error counts, and its first error.
func TestCheckOrder(t *testing.T) {
	broken := []struct {
		err api.Errno
		t   api.Token
	}{
		{api.ErrKind, api.Token{Name: "A"}},
		{api.ErrName, start("A")},
		{api.ErrName, start("a", "B", "")},
		{api.ErrSize, start("a", "b", "", "c", "", "d", "", "e", "", "f", "")},
		{api.ErrTwice, start("a", "b", "", "b", "")},
		{api.ErrForm, comment("a")},
		{api.ErrForm, start("title")},
	}
	for _, x := range broken {
		for _, y := range broken {
			checkError(t, x.err, x.t, y.t)
			checkError(t, x.err, start("a"), chars("b"), x.t, chars("c"), y.t)
		}
	}
}

// P4.1 and P4.2 as they are written above, for tokens with all that they may have, between others.
func TestEveryToken(t *testing.T) {
	around := [][2][]api.Token{
		{},
		{{chars("x")}, {chars("y")}},
		{{start("a")}, {end("a")}},
		{{end("style")}, {end("script")}},
		{{self("br")}, {end("title"), chars("z")}},
		{nil, {api.Token{Kind: api.End, Name: "script", Self: true}}},
		{nil, {start("script"), end("script")}},
		{{comment("c")}, nil},
		{nil, {api.Token{Kind: 7, Name: "script"}}},
	}
	attrs := [][]api.Attr{
		nil, {}, named("a"), named("A"), named("a", "b"), named("a", "a"), named("a", "A", "a"), named("a", "b", "c", "d"),
		named("a", "b", "a", "d"), named("a", "b", "c", "d", "e"), named("a", "a", "c", "d", "e"), named("a", "b", "c", "d", ""),
	}
	var x api.Token
	for x.Kind = -1; x.Kind <= 5; x.Kind++ {
		for _, x.Name = range []string{"", "a", "A", "script", "title", "twelve-bytes", "thirteen-byte"} {
			for _, x.Attrs = range attrs {
				for _, x.Text = range []string{"", "x", "<\"&>"} {
					for _, x.Self = range []bool{false, true} {
						for _, l := range around {
							all := append(append(append([]api.Token{}, l[0]...), x), l[1]...)
							checkExpected(t, all...)
						}
					}
				}
			}
		}
	}
}

// P4.1 and P4.2 as they are written above, for every list of some tokens.
func TestEveryList(t *testing.T) {
	check := func(l []api.Token) { checkExpected(t, l...) }
	every([]api.Token{start("p"), self("p"), end("p"), chars("a"), chars("&lt;"), start("style"), end("style"), self("title"), end("title"), comment(""), {}}, 4, check)
	every([]api.Token{start("script"), end("script"), chars("</script>"), start("b", "c", "\"'>"), end("script1")}, 5, check)
}

// P4.2: how tokens are written.
func TestText(t *testing.T) {
	checkText(t, "")
	checkText(t, `<p a="1">`, start("p", "a", "1"))
	checkText(t, `<p>`, start("p"))
	checkText(t, `<p/>`, self("p"))
	checkText(t, `</p>`, end("p"))
	checkText(t, `a`, chars("a"))
	checkText(t, `<a href="x&quot;y">&lt;</a><br/>`, start("a", "href", "x\"y"), chars("<"), end("a"), self("br"))
	checkText(t, `<p a="1" b="2">`, start("p", "a", "1", "b", "2"))
	checkText(t, `<p b="2" a="1"/>`, self("p", "b", "2", "a", "1"))
	checkText(t, `<p a=""/>`, self("p", "a", ""))
	checkText(t, `<p a="/">`, start("p", "a", "/"))
	checkText(t, `<p a="/"/>`, self("p", "a", "/"))
	checkText(t, `<p a=" b = c ">`, start("p", "a", " b = c "))
	// The tokens need not be balanced.
	checkText(t, `</b><i>a</p>b<i></b>`, end("b"), start("i"), chars("a"), end("p"), chars("b"), start("i"), end("b"))
}

// P4.2: what is replaced in texts and in values.
func TestTextReferences(t *testing.T) {
	for _, c := range []struct{ s, text, value string }{
		{"&", "&amp;", "&amp;"},
		{"<", "&lt;", "&lt;"},
		{">", "&gt;", "&gt;"},
		{"\"", "\"", "&quot;"},
		{"'", "'", "'"},
		{"&amp;", "&amp;amp;", "&amp;amp;"},
		{"&lt;", "&amp;lt;", "&amp;lt;"},
		{"&#65;", "&amp;#65;", "&amp;#65;"},
		{"<b>", "&lt;b&gt;", "&lt;b&gt;"},
		{"</p>", "&lt;/p&gt;", "&lt;/p&gt;"},
		{"<!--a-->", "&lt;!--a--&gt;", "&lt;!--a--&gt;"},
		{"<", "&lt;", "&lt;"},
		{"</", "&lt;/", "&lt;/"},
		{"\"><script>", "\"&gt;&lt;script&gt;", "&quot;&gt;&lt;script&gt;"},
		{"'a'=\"b\"", "'a'=\"b\"", "'a'=&quot;b&quot;"},
		{" a\t\n\f\r ", " a\t\n\f\r ", " a\t\n\f\r "},
		{"\x00\xff\xc3", "\x00\xff\xc3", "\x00\xff\xc3"},
		{"é\u00a0©😀", "é\u00a0©😀", "é\u00a0©😀"},
	} {
		checkText(t, c.text, chars(c.s))
		checkText(t, "<p>"+c.text+"</p>", start("p"), chars(c.s), end("p"))
		checkText(t, "<p a=\""+c.value+"\">", start("p", "a", c.s))
		checkText(t, "<p a=\""+c.value+"\" b=\""+c.value+"\"/>"+c.text, self("p", "a", c.s, "b", c.s), chars(c.s))
	}
}

// P4.2: each two bytes as a text and as a value, which become no markup.
func TestTextBytes(t *testing.T) {
	for c := range 256 {
		for _, d := range []byte("&<>\"'/=! \t\n\f;#-a\x00\xff") {
			for _, s := range []string{string([]byte{byte(c), d}), string([]byte{d, byte(c)})} {
				checkExpected(t, start("p", "a", s, "b", s), chars(s), end("p"))
			}
		}
	}
}

// P4.2: the bytes of the result are limited, with their references.
func TestTextSize(t *testing.T) {
	for _, c := range []struct{ s, text, value string }{
		{"a", "a", "a"},
		{"é", "é", "é"},
		{"<", "&lt;", "&lt;"},
		{"&", "&amp;", "&amp;"},
		{"\"", "\"", "&quot;"},
	} {
		most := api.MaxText / len(c.text)
		checkText(t, strings.Repeat(c.text, most), chars(strings.Repeat(c.s, most)))
		checkLong(t, chars(strings.Repeat(c.s, most+1)))
		checkLong(t, chars(strings.Repeat(c.s, most)+"a"))
		checkLong(t, start("b"), chars(strings.Repeat(c.s, most)))
		checkLong(t, chars(strings.Repeat(c.s, most)), end("b"))

		fixed := len(`<p a="">`)
		most = (api.MaxText - fixed) / len(c.value)
		spare := strings.Repeat("x", api.MaxText-fixed-most*len(c.value))
		value := strings.Repeat(c.s, most) + spare
		checkText(t, `<p a="`+strings.Repeat(c.value, most)+spare+`">`, start("p", "a", value))
		checkLong(t, start("p", "a", value+"x"))
		checkLong(t, self("p", "a", value))
		checkLong(t, start("pp", "a", value))
		checkLong(t, start("p", "aa", value))
		checkLong(t, start("p", "a", value), chars("x"))
		checkLong(t, start("p", "a", value, "b", ""))
	}
	checkText(t, strings.Repeat("<a>b", 150), times(150, start("a"), chars("b"))...)
	checkText(t, strings.Repeat("<a>", 200), times(200, start("a"))...)
	checkLong(t, times(201, start("a"))...)
	checkText(t, strings.Repeat("</a>", 150), times(150, end("a"))...)
	checkLong(t, times(151, end("a"))...)
	checkLong(t, times(300, end("a"))...)
}

// P4.2: the error of Check precedes the length.
func TestTextErrorOrder(t *testing.T) {
	long := chars(strings.Repeat("x", api.MaxText+1))
	checkLong(t, long)
	checkError(t, api.ErrKind, long, api.Token{})
	checkError(t, api.ErrName, long, end("A"))
	checkError(t, api.ErrTwice, long, start("a", "b", "", "b", ""))
	checkError(t, api.ErrForm, long, chars("a"))
	checkError(t, api.ErrForm, long, comment("a"))
	checkError(t, api.ErrForm, start("a", "b", long.Text), start("title"))
	checkError(t, api.ErrForm, append(times(299, end("a")), comment(""))...)
}

// allocated returns how many bytes f allocates.
func allocated(f func()) uint64 {
	var before, after runtime.MemStats
	runtime.ReadMemStats(&before)
	f()
	runtime.ReadMemStats(&after)
	return after.TotalAlloc - before.TotalAlloc
}

// P4.2: a text that is much too long is not escaped as a whole, which could take more memory than there is.
func TestTextVeryLong(t *testing.T) {
	long := strings.Repeat("\"", 20000000)
	for name, l := range map[string][]api.Token{
		"value":  {start("p", "a", "", "b", long)},
		"values": {start("p", "a", long, "b", long, "c", long, "d", long)},
		"text":   {start("p"), chars(long), end("p")},
		"texts":  times(150, chars(long), end("a")),
	} {
		size := allocated(func() { checkLong(t, l...) })
		if size > 1000000 {
			t.Errorf("%s: Text allocates %d bytes", name, size)
		}
	}
}

// The list that is passed stays as it is, with its spare capacity.
func TestTextLeavesItsList(t *testing.T) {
	list := func() []api.Token {
		l := []api.Token{start("p", "a", "<", "b", ">", "a", "&"), chars("<"), end("p"), chars("&"), start("title"), end("title"), comment("c")}
		l[0].Attrs = l[0].Attrs[:2]
		return l
	}
	spare := func(l []api.Token) []api.Attr { return l[0].Attrs[:3] }
	all := list()
	for n := range len(all) + 1 {
		emit.Check(all[:n])
		emit.Text(all[:n])
		if !reflect.DeepEqual(all, list()) || !reflect.DeepEqual(spare(all), spare(list())) {
			t.Fatalf("the list became %+v", all)
		}
	}
}

func FuzzText(f *testing.F) {
	f.Add(1, "p", "a", "<&\"", false, 3, "", "", "", true, "text>")
	f.Add(1, "script", "", "", true, 2, "script", "", "", false, "")
	f.Fuzz(func(t *testing.T, kind int, name, attr, value string, self bool, kind2 int, name2, attr2, value2 string, self2 bool, text string) {
		x := api.Token{Kind: kind, Name: name, Self: self}
		if attr != "" {
			x.Attrs = []api.Attr{{Name: attr, Value: value}, {Name: attr2, Value: value2}}
		}
		y := api.Token{Kind: kind2, Name: name2, Self: self2, Text: text}
		checkExpected(t, x)
		checkExpected(t, x, y)
		checkExpected(t, y, x)
		checkExpected(t, chars(text), x, y, chars(value))
		checkExpected(t, start("a", "b", text, "c", value), chars(value2))
	})
}
