package tok_test

import (
	"reflect"
	"regexp"
	"strings"
	"testing"

	"bobbinet/api"
	"bobbinet/ref"
	"bobbinet/tok"
)

func start(name string, attrs ...string) api.Token {
	t := api.Token{Kind: api.Start, Name: name}
	for i := 0; i < len(attrs); i += 2 {
		t.Attrs = append(t.Attrs, api.Attr{Name: attrs[i], Value: attrs[i+1]})
	}
	return t
}

func self(name string, attrs ...string) api.Token {
	t := start(name, attrs...)
	t.Self = true
	return t
}

func end(name string) api.Token {
	return api.Token{Kind: api.End, Name: name}
}

func chars(text string) api.Token {
	return api.Token{Kind: api.Chars, Text: text}
}

func comment(text string) api.Token {
	return api.Token{Kind: api.Comment, Text: text}
}

// same tells whether the lists are alike; lists without elements are, nil or not.
func same(a, b []api.Token) bool {
	if len(a) != len(b) {
		return false
	}
	for i := range a {
		x, y := a[i], b[i]
		if len(x.Attrs) == 0 && len(y.Attrs) == 0 {
			x.Attrs, y.Attrs = nil, nil
		}
		if !reflect.DeepEqual(x, y) {
			return false
		}
	}
	return true
}

func checkParse(t *testing.T, s string, want ...api.Token) {
	t.Helper()
	got, err := tok.Parse(s)
	if err != api.OK || !same(got, want) {
		t.Errorf("Parse(%q) = %+v, %v, want %+v", s, got, err, want)
	}
}

// every calls f with each text of up to most of the pieces.
func every(pieces []string, most int, f func(s string)) {
	var extend func(s string, left int)
	extend = func(s string, left int) {
		f(s)
		if left == 0 {
			return
		}
		for _, piece := range pieces {
			extend(s+piece, left-1)
		}
	}
	extend("", most)
}

// Below, chapter 3 is written as patterns that are tried at a place, and as a machine with a state that reads a tag byte by byte.
var (
	tagPattern     = regexp.MustCompile(`^</?[a-zA-Z]`)
	dashesPattern  = regexp.MustCompile(`(?s)^<!--(.*?)(?:-->|$)`)
	commentPattern = regexp.MustCompile(`(?s)^<(?:!|/[^a-zA-Z]|(\?))`)
	rawPatterns    = map[string]*regexp.Regexp{
		"script":   regexp.MustCompile(`</[sS][cC][rR][iI][pP][tT][ \t\n\f/>]`),
		"style":    regexp.MustCompile(`</[sS][tT][yY][lL][eE][ \t\n\f/>]`),
		"textarea": regexp.MustCompile(`</[tT][eE][xX][tT][aA][rR][eE][aA][ \t\n\f/>]`),
		"title":    regexp.MustCompile(`</[tT][iI][tT][lL][eE][ \t\n\f/>]`),
	}
)

func small(s string) string {
	var b strings.Builder
	for i := range len(s) {
		if c := s[i]; strings.IndexByte("ABCDEFGHIJKLMNOPQRSTUVWXYZ", c) >= 0 {
			b.WriteByte(c | 32)
		} else {
			b.WriteByte(c)
		}
	}
	return b.String()
}

// expectedComment is P3.3.
func expectedComment(s string) (text string, size int, ok bool) {
	if m := dashesPattern.FindStringSubmatch(s); m != nil {
		return m[1], len(m[0]), true
	}
	if !commentPattern.MatchString(s) {
		return "", 0, false
	}
	from := 2
	if s[1] == '?' {
		from = 1
	}
	for i := 2; i < len(s); i++ {
		if s[i] == '>' {
			return s[from:i], i + 1, true
		}
	}
	return s[from:], len(s), true
}

// tagReader is a machine for P3.2.
type tagReader struct {
	t           api.Token
	state       int
	name, value string
	slash       bool
}

const (
	inName = iota
	between
	inAttr
	afterAttr
	beforeValue
	inDouble
	inSingle
	inBare
)

func (r *tagReader) add() {
	for _, a := range r.t.Attrs {
		if a.Name == small(r.name) {
			r.name, r.value = "", ""
			return
		}
	}
	r.t.Attrs = append(r.t.Attrs, api.Attr{Name: small(r.name), Value: ref.Unescape(r.value)})
	r.name, r.value = "", ""
}

// read takes the next byte, and tells whether it ends the tag.
func (r *tagReader) read(c byte) bool {
	slash := r.slash
	r.slash = c == '/' && r.state != inBare && r.state != inDouble && r.state != inSingle && r.state != beforeValue
	isSpace := c == 32 || c == 9 || c == 10 || c == 12
	switch r.state {
	case inName:
		if !isSpace && c != '/' && c != '>' {
			r.t.Name += small(string([]byte{c}))
			return false
		}
		r.state = between
	case inAttr:
		if !isSpace && c != '/' && c != '>' && c != '=' {
			r.name += string([]byte{c})
			return false
		}
		r.state = afterAttr
	case beforeValue:
		switch {
		case isSpace:
			return false
		case c == '"':
			r.state = inDouble
			return false
		case c == '\'':
			r.state = inSingle
			return false
		}
		r.state = inBare
	case inDouble, inSingle:
		if r.state == inDouble && c == '"' || r.state == inSingle && c == '\'' {
			r.add()
			r.state = between
		} else {
			r.value += string([]byte{c})
		}
		return false
	}
	if r.state == inBare {
		if !isSpace && c != '>' {
			r.value += string([]byte{c})
			return false
		}
		r.add()
		r.state = between
	}
	if r.state == afterAttr {
		switch {
		case isSpace:
			return false
		case c == '=':
			r.state = beforeValue
			return false
		}
		r.add()
		r.state = between
	}
	if c == '>' {
		r.t.Self = slash
		return true
	}
	if !isSpace && c != '/' {
		r.name = string([]byte{c})
		r.state = inAttr
	}
	return false
}

// expectedTag is P3.2.
func expectedTag(s string) (t api.Token, size int, ok bool) {
	r := tagReader{t: api.Token{Kind: api.Start}}
	from := 1
	if s[1] == '/' {
		r.t.Kind, from = api.End, 2
	}
	for i := from; i < len(s); i++ {
		if r.read(s[i]) {
			if r.t.Kind == api.End {
				r.t.Attrs, r.t.Self = nil, false
			}
			return r.t, i + 1, true
		}
	}
	return api.Token{}, 0, false
}

// expected is chapter 3.
func expected(s string) []api.Token {
	var tokens []api.Token
	text := ""
	flush := func() {
		if text != "" {
			tokens = append(tokens, chars(ref.Unescape(text)))
		}
		text = ""
	}
	for s != "" {
		if note, size, ok := expectedComment(s); ok {
			flush()
			tokens = append(tokens, comment(note))
			s = s[size:]
			continue
		}
		if !tagPattern.MatchString(s) {
			text += s[:1]
			s = s[1:]
			continue
		}
		flush()
		tag, size, ok := expectedTag(s)
		if !ok {
			return tokens
		}
		tokens = append(tokens, tag)
		s = s[size:]
		pattern := rawPatterns[tag.Name]
		if pattern == nil || tag.Kind == api.End {
			continue
		}
		raw := s
		if at := pattern.FindStringIndex(s); at != nil {
			raw = s[:at[0]]
		}
		s = s[len(raw):]
		if tag.Name == "textarea" || tag.Name == "title" {
			raw = ref.Unescape(raw)
		}
		if raw != "" {
			tokens = append(tokens, chars(raw))
		}
	}
	flush()
	return tokens
}

func checkExpected(t *testing.T, s string) {
	t.Helper()
	checkParse(t, s, expected(s)...)
}

// P3.1: text between tags and comments.
func TestParseText(t *testing.T) {
	checkParse(t, "")
	for _, s := range []string{"a", "abc", " ", "\n", "a b\tc\nd\fe", "\x00", "\r", "\xff\xe2\x82", "é€😀", ">", "a>b", "/>", "-->", "\"'=", "]]>"} {
		checkParse(t, s, chars(s))
	}
	checkParse(t, "<p>a", start("p"), chars("a"))
	checkParse(t, "a<p>b</p>c", chars("a"), start("p"), chars("b"), end("p"), chars("c"))
	checkParse(t, "<a><b></b></a>", start("a"), start("b"), end("b"), end("a"))
	checkParse(t, " <p> </p>\n", chars(" "), start("p"), chars(" "), end("p"), chars("\n"))
	checkParse(t, "<1 <2", chars("<1 <2"))
}

// P3.1: references in text are replaced, once, and make no markup.
func TestParseReferences(t *testing.T) {
	checkParse(t, "&lt;b&gt;", chars("<b>"))
	checkParse(t, "a&amp;lt;b", chars("a&lt;b"))
	checkParse(t, "&#60;p&#x3E;", chars("<p>"))
	checkParse(t, "&#0;", chars("\ufffd"))
	checkParse(t, "&zz;&lt", chars("&zz;&lt"))
	checkParse(t, "&nbsp;&copy;", chars("\u00a0\u00a9"))
	// A reference is read across a < that begins nothing, and not across a token.
	checkParse(t, "<&lt;<", chars("<<<"))
	checkParse(t, "&l<b>t;", chars("&l"), start("b"), chars("t;"))
	checkParse(t, "&l<!>t;", chars("&l"), comment(""), chars("t;"))
	checkParse(t, "&lt<b>;", chars("&lt"), start("b"), chars(";"))
}

// P3.1: A to Z become lowercase in names, and nothing else does.
func TestParseLowercase(t *testing.T) {
	checkParse(t, "<ABCXYZ></ABCXYZ>", start("abcxyz"), end("abcxyz"))
	checkParse(t, "<P ABCXYZ=ABC>ABC<!--ABC-->", start("p", "abcxyz", "ABC"), chars("ABC"), comment("ABC"))
	checkParse(t, "<aÉ\u212a É=É \u212a=\u212a>", start("aÉ\u212a", "É", "É", "\u212a", "\u212a"))
	checkParse(t, "<a@[`{ @[`{=x>", start("a@[`{", "@[`{", "x"))
	checkParse(t, "<A\xff\xc9\x80 \xff\xc9B=\xff>", start("a\xff\xc9\x80", "\xff\xc9b", "\xff"))
	checkParse(t, "</A\xff\xc9\x80>", end("a\xff\xc9\x80"))
}

// P3.1: which bytes begin a tag, and which are space.
func TestParseEveryByte(t *testing.T) {
	for c := range 256 {
		s := string([]byte{byte(c)})
		letter := 'a' <= c && c <= 'z' || 'A' <= c && c <= 'Z'
		switch {
		case letter:
			checkParse(t, "<"+s+">", start(small(s)))
			checkParse(t, "</"+s+">", end(small(s)))
		case s == "!":
			checkParse(t, "<!>", comment(""))
		case s == "?":
			checkParse(t, "<?>", comment("?"))
		case s == "/":
			checkParse(t, "</>", comment(""))
		default:
			checkParse(t, "<"+s+">", chars("<"+s+">"))
		}
		if !letter && s != ">" {
			checkParse(t, "</"+s+">", comment(s))
		}
		switch s {
		case " ", "\t", "\n", "\f":
			checkParse(t, "<a"+s+"b>", start("a", "b", ""))
			checkParse(t, "<a b"+s+"="+s+"c>", start("a", "b", "c"))
		case "/":
			checkParse(t, "<a/b>", start("a", "b", ""))
		case ">":
			checkParse(t, "<a>b>", start("a"), chars("b>"))
		default:
			checkParse(t, "<a"+s+"b>", start("a"+small(s)+"b"))
		}
		for _, text := range []string{"<a " + s + ">", "<a b" + s + "c>", "<a b=" + s + ">x>", "<a b=c" + s + "d>", "<a b='" + s + "'>", "<a b=\"" + s + "\">", "<a b" + s + "=" + s + "c>", "<script></script" + s + "x>"} {
			checkExpected(t, text)
		}
	}
}

// P3.1: ErrSize, and nothing with it.
func TestParseSize(t *testing.T) {
	checkParse(t, strings.Repeat("x", api.MaxText), chars(strings.Repeat("x", api.MaxText)))
	for _, s := range []string{strings.Repeat("x", api.MaxText+1), strings.Repeat("<a>", api.MaxText), strings.Repeat("<a", api.MaxText), strings.Repeat("é", api.MaxText/2) + "\xff"} {
		if got, err := tok.Parse(s); len(got) != 0 || err != api.ErrSize {
			t.Errorf("Parse of %d bytes = %v, %v", len(s), got, err)
		}
	}
	// The limit counts bytes ahead of the replacement of references.
	checkParse(t, strings.Repeat("&amp;", api.MaxText/5), chars(strings.Repeat("&", api.MaxText/5)))
	checkParse(t, strings.Repeat("é", api.MaxText/2), chars(strings.Repeat("é", api.MaxText/2)))
}

// P3.1: the texts of the most tokens have MaxTokens of them.
func TestParseMostTokens(t *testing.T) {
	for _, piece := range []string{"<a>b", "a<b>", "<!>a", "<?>a", "a</>"} {
		got, err := tok.Parse(strings.Repeat(piece, api.MaxText/len(piece)))
		if len(got) != api.MaxTokens || err != api.OK {
			t.Errorf("Parse of many %q: %d tokens, %v", piece, len(got), err)
		}
	}
}

// P3.2: tags and their names.
func TestParseTags(t *testing.T) {
	checkParse(t, "<a>", start("a"))
	checkParse(t, "<h1>", start("h1"))
	checkParse(t, "<a-b:c.d_e=f\"g'h<i&lt;>", start("a-b:c.d_e=f\"g'h<i&lt;"))
	checkParse(t, "<a >", start("a"))
	checkParse(t, "<a\t\n\f >", start("a"))
	checkParse(t, "<a\r>", start("a\r"))
	checkParse(t, "<a\v>", start("a\v"))
	checkParse(t, "<a<b>", start("a<b"))
	checkParse(t, "<<a>", chars("<"), start("a"))
	checkParse(t, "< a>", chars("< a>"))
	checkParse(t, "<a>>", start("a"), chars(">"))
	checkParse(t, "</a>", end("a"))
	checkParse(t, "</a\n>", end("a"))
	checkParse(t, "</a/>", end("a"))
	checkParse(t, "</a b=c d/>", end("a"))
	checkParse(t, "</a b='>'>x", end("a"), chars("x"))
	checkParse(t, "</ a>", comment(" a"))
	long := strings.Repeat("n", 500)
	checkParse(t, "<"+long+" "+"a>", start(long, "a", ""))
}

// P3.2: attributes and their values.
func TestParseAttrs(t *testing.T) {
	for _, c := range []struct {
		tag   string
		attrs []string
	}{
		{"<a b>", []string{"b", ""}},
		{"<a b c>", []string{"b", "", "c", ""}},
		{"<a b/c>", []string{"b", "", "c", ""}},
		{"<a/b/c>", []string{"b", "", "c", ""}},
		{"<a b=c>", []string{"b", "c"}},
		{"<a b=c d=e>", []string{"b", "c", "d", "e"}},
		{"<a b = c>", []string{"b", "c"}},
		{"<a b\t\n=\f c>", []string{"b", "c"}},
		{"<a b =c d>", []string{"b", "c", "d", ""}},
		{"<a b='c d'>", []string{"b", "c d"}},
		{"<a b=\"c d\">", []string{"b", "c d"}},
		{"<a b = 'c'>", []string{"b", "c"}},
		{"<a b='c\"d'>", []string{"b", "c\"d"}},
		{"<a b=\"c'd\">", []string{"b", "c'd"}},
		{"<a b='>' c=\"/>\">", []string{"b", ">", "c", "/>"}},
		{"<a b=''>", []string{"b", ""}},
		{"<a b=\"\">", []string{"b", ""}},
		{"<a b=>", []string{"b", ""}},
		{"<a b= >", []string{"b", ""}},
		{"<a b= c>", []string{"b", "c"}},
		// No space is needed after a quote.
		{"<a b='c'd>", []string{"b", "c", "d", ""}},
		{"<a b=\"c\"d=e>", []string{"b", "c", "d", "e"}},
		{"<a b='c'='d'>", []string{"b", "c", "='d'", ""}},
		{"<a b=''''>", []string{"b", "", "''", ""}},
		// Quotes within other values and names are bytes like any other.
		{"<a b=c'd' e>", []string{"b", "c'd'", "e", ""}},
		{"<a b=c\"d>", []string{"b", "c\"d"}},
		{"<a 'b'>", []string{"'b'", ""}},
		{"<a \"b c\">", []string{"\"b", "", "c\"", ""}},
		{"<a b'c='d'>", []string{"b'c", "d"}},
		// A value ends with a space or a >.
		{"<a b=c/d>", []string{"b", "c/d"}},
		{"<a b=c=d>", []string{"b", "c=d"}},
		{"<a b==c>", []string{"b", "=c"}},
		{"<a b=<c>", []string{"b", "<c"}},
		{"<a b=/>", []string{"b", "/"}},
		{"<a b=/c d>", []string{"b", "/c", "d", ""}},
		{"<a b= />", []string{"b", "/"}},
		{"<a b=c\rd\ve>", []string{"b", "c\rd\ve"}},
		// The first byte of a name may be any but those that are skipped.
		{"<a =>", []string{"=", ""}},
		{"<a =b>", []string{"=b", ""}},
		{"<a ==>", []string{"=", ""}},
		{"<a ==b>", []string{"=", "b"}},
		{"<a = b>", []string{"=", "", "b", ""}},
		{"<a = =b>", []string{"=", "b"}},
		{"<a ===b>", []string{"=", "=b"}},
		{"<a/=b>", []string{"=b", ""}},
		{"<a b/=c>", []string{"b", "", "=c", ""}},
		{"<a b / =c>", []string{"b", "", "=c", ""}},
		{"<a <b>", []string{"<b", ""}},
		{"<a b<c=d>", []string{"b<c", "d"}},
		{"<a \x00=\xff>", []string{"\x00", "\xff"}},
		{"<a b\rc\v=d>", []string{"b\rc\v", "d"}},
	} {
		checkParse(t, c.tag+"x", start("a", c.attrs...), chars("x"))
		checkParse(t, "</"+c.tag[1:]+"x", end("a"), chars("x"))
	}
}

// P3.2: references are replaced in values alone.
func TestParseAttrReferences(t *testing.T) {
	checkParse(t, "<a b=&lt; c='&gt;&quot;' d=\"&#65;&amp;lt;\">", start("a", "b", "<", "c", ">\"", "d", "A&lt;"))
	checkParse(t, "<a b=&#39;c&#39; d=&quot;>", start("a", "b", "'c'", "d", "\""))
	checkParse(t, "<a b=x&#32;y&#62;z>", start("a", "b", "x y>z"))
	checkParse(t, "<a&lt; &gt;=&gt; &amp;>", start("a&lt;", "&gt;", ">", "&amp;", ""))
	checkParse(t, "<a b&#61;c>", start("a", "b&#61;c", ""))
	checkParse(t, "<a b='&lt' c=;>", start("a", "b", "&lt", "c", ";"))
}

// P3.2: of attributes with one name, the first stays.
func TestParseSameAttrs(t *testing.T) {
	checkParse(t, "<a b=1 b=2>", start("a", "b", "1"))
	checkParse(t, "<a b B=2 c=3 b=4 C d=5>", start("a", "b", "", "c", "3", "d", "5"))
	checkParse(t, "<a B=1 b=2/>", start("a", "b", "1"))
	checkParse(t, "<a B=1 b=2 />", self("a", "b", "1"))
	checkParse(t, "<a = = =>", start("a", "=", "="))
	checkParse(t, "<a b&amp;=1 b&=2>", start("a", "b&amp;", "1", "b&", "2"))
	// MaxAttrs does not concern the tokenizer.
	many := "<x"
	var names []string
	for c := 'a'; c <= 'z'; c++ {
		many += " " + string(c) + "=" + string(c-'a'+'A')
		names = append(names, string(c), string(c-'a'+'A'))
	}
	checkParse(t, many+many[2:]+">", start("x", names...))
}

// P3.2: Self.
func TestParseSelf(t *testing.T) {
	checkParse(t, "<a/>", self("a"))
	checkParse(t, "<a />", self("a"))
	checkParse(t, "<a//>", self("a"))
	checkParse(t, "<a/ / />", self("a"))
	checkParse(t, "<a/ >", start("a"))
	checkParse(t, "<a / >", start("a"))
	checkParse(t, "<a/\n>", start("a"))
	checkParse(t, "<a/b>", start("a", "b", ""))
	checkParse(t, "<a b/>", self("a", "b", ""))
	checkParse(t, "<a b />", self("a", "b", ""))
	checkParse(t, "<a b / >", start("a", "b", ""))
	checkParse(t, "<a b='c'/>", self("a", "b", "c"))
	checkParse(t, "<a b=\"/\">", start("a", "b", "/"))
	checkParse(t, "<a b='/'/>", self("a", "b", "/"))
	checkParse(t, "<a b=c/>", start("a", "b", "c/"))
	checkParse(t, "<a b=c//>", start("a", "b", "c//"))
	checkParse(t, "<a b=c />", self("a", "b", "c"))
	checkParse(t, "<a b=/>", start("a", "b", "/"))
	checkParse(t, "<a b=/ />", self("a", "b", "/"))
	checkParse(t, "<a =/>", self("a", "=", ""))
	checkParse(t, "<a/></a/>", self("a"), end("a"))
}

// P3.2: a tag that does not end is ignored, and so is what follows.
func TestParseUnfinishedTags(t *testing.T) {
	for _, s := range []string{"<a", "</a", "<a ", "<a/", "<a b", "<a b ", "<a b=", "<a b= ", "<a b=c", "<a b=c ", "<a b='", "<a b='c", "<a b='c>", "<a b='c>d<e>", "<a b=\"c>d</a>'", "<a b='c'", "<a b='c'/", "<a b='c' ", "<a =", "<script", "<script ", "</script", "<a<!--"} {
		checkParse(t, s)
		checkParse(t, "x"+s, chars("x"))
		checkParse(t, "<p>&lt;"+s, start("p"), chars("<"))
		checkParse(t, "<!>"+s, comment(""))
		checkParse(t, "<"+s, chars("<"))
	}
}

// P3.3
func TestParseComments(t *testing.T) {
	for _, c := range []struct{ s, text string }{
		{"<!---->", ""},
		{"<!--c-->", "c"},
		{"<!-- c -->", " c "},
		{"<!--a>b<c>-->", "a>b<c>"},
		{"<!--a--b-->", "a--b"},
		{"<!----->", "-"},
		{"<!------>", "--"},
		{"<!--->-->", "->"},
		{"<!-->-->", ">"},
		{"<!--a--!>-->", "a--!>"},
		{"<!--<!--a-->", "<!--a"},
		{"<!--a\n\x00\xff&lt;-->", "a\n\x00\xff&lt;"},
		{"<!>", ""},
		{"<!->", "-"},
		{"<!-a-->", "-a--"},
		{"<!- -->", "- --"},
		{"<!a>", "a"},
		{"<! -->", " --"},
		{"<!DOCTYPE html>", "DOCTYPE html"},
		{"<![CDATA[a>", "[CDATA[a"},
		{"<!a'>", "a'"},
		{"<?>", "?"},
		{"<??>", "??"},
		{"<?xml a='b'?>", "?xml a='b'?"},
		{"<?-->", "?--"},
		{"<?&lt;>", "?&lt;"},
		{"</>", ""},
		{"</1>", "1"},
		{"</ >", " "},
		{"</ a>", " a"},
		{"<//a>", "/a"},
		{"</--a>", "--a"},
		{"</!--a>", "!--a"},
		{"</<a>", "<a"},
		{"</\xff\xfe&lt;>", "\xff\xfe&lt;"},
		{"</é>", "é"},
	} {
		checkParse(t, c.s, comment(c.text))
		checkParse(t, "a"+c.s+"b-->", chars("a"), comment(c.text), chars("b-->"))
		checkParse(t, c.s+c.s+"<p>", comment(c.text), comment(c.text), start("p"))
	}
}

// P3.3: a comment that is not closed goes on to the end.
func TestParseUnfinishedComments(t *testing.T) {
	for _, c := range []struct{ s, text string }{
		{"<!", ""},
		{"<!-", "-"},
		{"<!--", ""},
		{"<!---", "-"},
		{"<!----", "--"},
		{"<!-->", ">"},
		{"<!--->", "->"},
		{"<!--a-- >", "a-- >"},
		{"<!--a--!>", "a--!>"},
		{"<!--a<b></b>", "a<b></b>"},
		{"<!a", "a"},
		{"<!a<b", "a<b"},
		{"<?", "?"},
		{"<?a", "?a"},
		{"</1", "1"},
		{"</ ", " "},
		{"</<", "<"},
		{"<//", "/"},
	} {
		checkParse(t, c.s, comment(c.text))
		checkParse(t, "a"+c.s, chars("a"), comment(c.text))
	}
}

// P3.3: a < that begins nothing.
func TestParseLessThan(t *testing.T) {
	for _, s := range []string{"<", "</", "<<", "<<<", "<</", "< ", "<1", "<=", "<>", "<<>", "<-", "<&", "<\x00", "<\xff", "<é", "a<", "a</", "a < b", "<@<[<`<{"} {
		checkParse(t, s, chars(s))
		checkParse(t, "<p>"+s, start("p"), chars(s))
	}
	checkParse(t, "a<1<b>2<", chars("a<1"), start("b"), chars("2<"))
	checkParse(t, "<</p>", chars("<"), end("p"))
	checkParse(t, "<<!>", chars("<"), comment(""))
}

// P3.4: the text of the four elements.
func TestParseRaw(t *testing.T) {
	for _, name := range []string{"script", "style", "textarea", "title"} {
		content := "<b>a</b><!--c--></ " + name + "></" + name[1:] + "></" + name + "x></" + name + "\r><" + name + ">< /" + name + ">"
		for _, closing := range []string{"</" + name + ">", "</" + strings.ToUpper(name) + ">", "</" + strings.ToUpper(name[:1]) + name[1:] + " >", "</" + name + "\t>", "</" + name + "\n>", "</" + name + "\f>", "</" + name + "/>", "</" + name + "/a>", "</" + name + " a='>'>"} {
			checkParse(t, "<"+name+">"+content+closing+"&lt;<b>", start(name), chars(content), end(name), chars("<"), start("b"))
			checkParse(t, "<"+strings.ToUpper(name)+" a=b />"+content+closing, self(name, "a", "b"), chars(content), end(name))
			checkParse(t, "<"+name+">"+closing+"a", start(name), end(name), chars("a"))
		}
		// Without an end tag, the text goes on to the end.
		checkParse(t, "<"+name+">", start(name))
		checkParse(t, "<"+name+"/>", self(name))
		checkParse(t, "<"+name+">"+content, start(name), chars(content))
		checkParse(t, "<"+name+">a</"+name, start(name), chars("a</"+name))
		checkParse(t, "<"+name+"></"+name, start(name), chars("</"+name))
		checkParse(t, "<"+name+"><", start(name), chars("<"))
		checkParse(t, "<"+name+"></", start(name), chars("</"))
		// The end tag need not end.
		checkParse(t, "<"+name+">a</"+name+" b", start(name), chars("a"))
		checkParse(t, "<"+name+">a</"+name+"/", start(name), chars("a"))
		checkParse(t, "<"+name+"></"+name+" b='>", start(name))
		// The text ends at the first end tag of this name.
		checkParse(t, "<"+name+">a</"+name+">b</"+name+">", start(name), chars("a"), end(name), chars("b"), end(name))
		checkParse(t, "<"+name+">a</</"+name+">", start(name), chars("a</"), end(name))
		checkParse(t, "<"+name+">a</"+name+"</"+name+">", start(name), chars("a</"+name), end(name))
		checkParse(t, "<"+name+">\xff\x00\r\n</"+name+">", start(name), chars("\xff\x00\r\n"), end(name))
	}
	checkParse(t, "<style><b></style>", start("style"), chars("<b>"), end("style"))
	checkParse(t, "<style></script></style>", start("style"), chars("</script>"), end("style"))
	checkParse(t, "<title><script></title>", start("title"), chars("<script>"), end("title"))
}

// P3.4: references in these texts.
func TestParseRawReferences(t *testing.T) {
	for _, name := range []string{"script", "style"} {
		checkParse(t, "<"+name+">&lt;&#65;&amp;</"+name+">", start(name), chars("&lt;&#65;&amp;"), end(name))
		checkParse(t, "<"+name+">&lt;", start(name), chars("&lt;"))
	}
	for _, name := range []string{"textarea", "title"} {
		checkParse(t, "<"+name+">&lt;&#65;&amp;lt;</"+name+">", start(name), chars("<A&lt;"), end(name))
		checkParse(t, "<"+name+">&lt;<b>&gt;", start(name), chars("<<b>>"))
		checkParse(t, "<"+name+">&lt;/"+name+">", start(name), chars("</"+name+">"))
	}
}

// P3.4: other tags have no such text.
func TestParseNoRaw(t *testing.T) {
	for _, name := range []string{"scripts", "scrip", "xscript", "styl", "textare", "titles", "p", "xmp", "noscript"} {
		checkParse(t, "<"+name+"><b></"+name+">", start(name), start("b"), end(name))
	}
	checkParse(t, "</script><b>&lt;", end("script"), start("b"), chars("<"))
	checkParse(t, "</title><b>&lt;", end("title"), start("b"), chars("<"))
	checkParse(t, "<p script><b>", start("p", "script", ""), start("b"))
	checkParse(t, "<!script><b>", comment("script"), start("b"))
	// Letters that are of one case with ASCII letters are none of the name.
	checkParse(t, "<style></\u017ftyle></style>", start("style"), chars("</\u017ftyle>"), end("style"))
	checkParse(t, "<script></SCR\u0130PT></script>", start("script"), chars("</SCR\u0130PT>"), end("script"))
}

// Chapter 3 as it is written above, on every text of some pieces.
func TestParseAll(t *testing.T) {
	check := func(s string) { checkExpected(t, s) }
	every([]string{"<", ">", "/", "a", "!", "-", "?", "&lt;", " "}, 6, check)
	every([]string{"=", "'", "\"", " ", "/", ">", "B", "\n"}, 6, func(s string) {
		checkExpected(t, "<a "+s)
		checkExpected(t, "<a b="+s+">c")
	})
	every([]string{"<title>", "</TITLE", "<Script", "</script>", ">", "/", " ", "&gt;", "<!--", "-->"}, 5, check)
}

// The attributes of the tokens share no memory.
func TestParseSharesNothing(t *testing.T) {
	const s = "<a b=1 c=2 d=3><e f=4><a b=1 c=2 d=3>"
	tokens, _ := tok.Parse(s)
	for i := range tokens {
		attrs := tokens[i].Attrs[:cap(tokens[i].Attrs)]
		for j := range attrs {
			attrs[j] = api.Attr{Name: "x", Value: "x"}
		}
		for k := i + 1; k < len(tokens); k++ {
			for _, a := range tokens[k].Attrs {
				if a.Name == "x" {
					t.Fatalf("tokens %d and %d share memory", i, k)
				}
			}
		}
	}
	spare := tokens[:cap(tokens)]
	for i := range spare {
		spare[i] = comment("x")
	}
	checkParse(t, s, start("a", "b", "1", "c", "2", "d", "3"), start("e", "f", "4"), start("a", "b", "1", "c", "2", "d", "3"))
}

func FuzzParse(f *testing.F) {
	f.Add("a<P Class=x id='y' id=z>b&lt;</p ><br/><!--c--><script>d<e</script>f<g")
	f.Add("<title>&lt;</TITLE/><a =b==c\xff/>")
	f.Fuzz(func(t *testing.T, s string) {
		if len(s) <= api.MaxText {
			checkExpected(t, s)
		}
	})
}
