package schema_test

import (
	"fmt"
	"math"
	"math/rand"
	"slices"
	"strings"
	"testing"

	"bobbinet/api"
	"bobbinet/expr"
	"bobbinet/schema"
	"bobbinet/tok"
	"bobbinet/tree"
)

// types reads a schema, a text for each type: "p[id,class]=(a|b)+" has a name, names of attributes and a content; "" is the text type.
func types(rows ...string) []api.Type {
	var l []api.Type
	for _, row := range rows {
		head, content, _ := strings.Cut(row, "=")
		name, attrs, hasAttrs := strings.Cut(head, "[")
		t := api.Type{Name: name, Content: content}
		if hasAttrs {
			t.Attrs = strings.Split(strings.TrimSuffix(attrs, "]"), ",")
		}
		l = append(l, t)
	}
	return l
}

func text(s string) api.Node {
	return api.Node{Text: s}
}

func element(name string, parts ...api.Node) api.Node {
	return api.Node{Name: name, Parts: parts}
}

// with returns the node with attributes of these names.
func with(n api.Node, names ...string) api.Node {
	for _, name := range names {
		n.Attrs = append(n.Attrs, api.Attr{Name: name, Value: "v"})
	}
	return n
}

func withText(n api.Node, s string) api.Node {
	n.Text = s
	return n
}

// same tells whether the nodes are alike; lists without elements are, nil or not.
func same(a, b api.Node) bool {
	return a.Name == b.Name && a.Text == b.Text && slices.Equal(a.Attrs, b.Attrs) && slices.EqualFunc(a.Parts, b.Parts, same)
}

// clone returns a copy that shares nothing.
func clone(n api.Node) api.Node {
	n.Attrs = slices.Clone(n.Attrs)
	n.Parts = slices.Clone(n.Parts)
	for i := range n.Parts {
		n.Parts[i] = clone(n.Parts[i])
	}
	return n
}

func isZero(n api.Node) bool {
	return same(n, api.Node{})
}

// shown shortens what a message shows.
func shown(value any) string {
	return fmt.Sprintf("%.600s", fmt.Sprintf("%+v", value))
}

// every calls f with each list of at most so many of the pieces.
func every[T any](pieces []T, most int, f func(l []T)) {
	var extend func(l []T)
	extend = func(l []T) {
		f(l)
		for i := 0; i < len(pieces) && len(l) < most; i++ {
			extend(append(slices.Clip(l), pieces[i]))
		}
	}
	extend(nil)
}

// checkOK is for schemas that are valid.
func checkOK(t *testing.T, l []api.Type) {
	t.Helper()
	if err := schema.Check(l); err != api.OK {
		t.Errorf("Check(%s) = %v", shown(l), err)
	}
	if want := expectedError(l); want != api.OK {
		t.Errorf("the model has %v for %s", want, shown(l))
	}
}

// checkError is for schemas that are not valid: every function returns the error first.
func checkError(t *testing.T, want api.Errno, l []api.Type) {
	t.Helper()
	if err := schema.Check(l); err != want {
		t.Errorf("Check(%s) = %v, want %v", shown(l), err, want)
	}
	if model := expectedError(l); model != want {
		t.Errorf("the model has %v for %s, want %v", model, shown(l), want)
	}
	numbers := []int{-1, 0, len(l) - 1, len(l), math.MinInt, math.MaxInt}
	nodes := []api.Node{{}, text("x"), element("a"), element("a", element("a")), element("nobody"), withText(element("a"), "x")}
	checkRefused(t, want, l, numbers, nodes)
}

// checkRefused is for schemas that are not valid, whatever the other arguments are.
func checkRefused(t *testing.T, want api.Errno, l []api.Type, numbers []int, nodes []api.Node) {
	t.Helper()
	if sizes, err := schema.Sizes(l); len(sizes) > 0 || err != want {
		t.Errorf("Sizes(%s) = %v, %v, want %v", shown(l), sizes, err, want)
	}
	for _, number := range numbers {
		if n, err := schema.Fill(l, number); !isZero(n) || err != want {
			t.Errorf("Fill(%s, %d) = %s, %v, want %v", shown(l), number, shown(n), err, want)
		}
	}
	for _, n := range nodes {
		if err := schema.Valid(l, n); err != want {
			t.Errorf("Valid(%s, %s) = %v, want %v", shown(l), shown(n), err, want)
		}
	}
}

// checkExpected compares all functions but Valid with the model.
func checkExpected(t *testing.T, l []api.Type) {
	t.Helper()
	want := expectedError(l)
	if err := schema.Check(l); err != want {
		t.Errorf("Check(%s) = %v, want %v", shown(l), err, want)
	}
	if want != api.OK {
		checkRefused(t, want, l, []int{0}, []api.Node{{}})
		return
	}
	sizes := expectedSizes(l)
	checkSizes(t, sizes, l)
	for number := range l {
		checkFill(t, expectedFill(l, sizes, number), l, number)
	}
}

func checkSizes(t *testing.T, want []int, l []api.Type) {
	t.Helper()
	sizes, err := schema.Sizes(l)
	if !slices.Equal(sizes, want) || err != api.OK {
		t.Errorf("Sizes(%s) = %v, %v, want %v", shown(l), sizes, err, want)
	}
	if model := expectedSizes(l); !slices.Equal(model, want) {
		t.Errorf("the model has the sizes %v for %s, want %v", model, shown(l), want)
	}
	for number := range sizes {
		n, err := schema.Fill(l, number)
		if nodes, _ := tree.Count([]api.Node{n}); nodes != want[number] || err != api.OK {
			t.Errorf("Fill(%s, %d) = %s, %v, want a tree of %d nodes", shown(l), number, shown(n), err, want[number])
		}
	}
}

func checkFill(t *testing.T, want api.Node, l []api.Type, number int) {
	t.Helper()
	n, err := schema.Fill(l, number)
	if !same(n, want) || err != api.OK {
		t.Errorf("Fill(%s, %d) = %s, %v, want %s", shown(l), number, shown(n), err, shown(want))
	}
	if model := expectedFill(l, expectedSizes(l), number); !same(model, want) {
		t.Errorf("the model has %s for type %d of %s, want %s", shown(model), number, shown(l), shown(want))
	}
	if number == 0 {
		checkValid(t, api.OK, l, n)
	}
}

func checkValid(t *testing.T, want api.Errno, l []api.Type, n api.Node) {
	t.Helper()
	if err := schema.Valid(l, n); err != want {
		t.Errorf("Valid(%s, %s) = %v, want %v", shown(l), shown(n), err, want)
	}
	if model := modelOf(l).expectedValid(n); model != want {
		t.Errorf("the model has %v for %s of %s, want %v", model, shown(n), shown(l), want)
	}
}

// P9.1
func TestCheck(t *testing.T) {
	checkOK(t, types(""))
	checkOK(t, types("p"))
	checkOK(t, types("p="))
	checkOK(t, types("p=()"))
	checkOK(t, types("br"))
	checkOK(t, types("br[id]", "hr[a,b,c,d]", "img", "input"))
	checkOK(t, types("a=a*"))
	checkOK(t, types("", "a=a"))
	checkOK(t, types("doc=b+", "p[id]=(d|cd)*c?", "", "br"))
	checkOK(t, types("a=(b|c|d|e|f|g|h)*", "b=a", "c=b", "d=c", "e=d", "f=e", "g=f", "h=g"))
	checkOK(t, types("a", "b", "c", "d", "e", "f", "g", "h"))
	checkOK(t, types("scripts", "styled", "text-area", "titles", "brr=a", "hr2=a", "image=a", "inputs=a"))
	checkOK(t, types("abcdefghijkl[abcdefghijkl,z9-]", "p-=c", "a1", "s--2"))
}

// P9.1
func TestCheckSize(t *testing.T) {
	checkError(t, api.ErrSize, nil)
	checkError(t, api.ErrSize, []api.Type{})
	names := []string{"a", "b", "c", "d", "e", "f", "g", "h", "i"}
	for count := 1; count <= 8; count++ {
		checkOK(t, types(names[:count]...))
	}
	checkError(t, api.ErrSize, types(names...))
	// However wrong they are.
	for _, bad := range []api.Type{{}, {Name: "A"}, {Name: "title"}, {Name: "p", Content: "("}, {Name: "p", Content: "a"}, {Attrs: []string{"A"}}} {
		checkError(t, api.ErrSize, slices.Repeat([]api.Type{bad}, 9))
		checkError(t, api.ErrSize, slices.Repeat([]api.Type{bad}, 1<<16))
	}
}

// P9.1
func TestCheckName(t *testing.T) {
	for i := range 256 {
		for _, name := range []string{string([]byte{byte(i)}), string([]byte{'a', byte(i)}), string([]byte{'a', byte(i), 'a'})} {
			want := api.ErrName
			if namePattern.MatchString(name) {
				want = api.OK
			}
			checkCheck(t, want, []api.Type{{Name: name}})
			checkCheck(t, want, []api.Type{{Name: "p", Attrs: []string{name}}})
			checkCheck(t, want, []api.Type{{}, {Name: "p", Attrs: []string{"zz", name}}})
		}
	}
	for _, name := range []string{"abcdefghijklm", "-a", "1a", "A", "aB", "a b", "a_b", "é", "ab\n", "\x00", "a\xff", " ", strings.Repeat("a", 1<<20)} {
		checkError(t, api.ErrName, []api.Type{{Name: name}})
		checkError(t, api.ErrName, []api.Type{{}, {Name: "p"}, {Name: name}})
		checkError(t, api.ErrName, []api.Type{{Name: "p", Attrs: []string{name}}})
		checkError(t, api.ErrName, []api.Type{{Name: "br", Attrs: []string{"a", "b", name}}})
	}
	// The text type has no name, but an attribute has one.
	checkOK(t, types(""))
	checkError(t, api.ErrName, []api.Type{{Name: "p", Attrs: []string{""}}})
	checkError(t, api.ErrName, []api.Type{{Name: "p", Attrs: []string{"id", ""}}})
}

func checkCheck(t *testing.T, want api.Errno, l []api.Type) {
	t.Helper()
	if want == api.OK {
		checkOK(t, l)
	} else {
		checkError(t, want, l)
	}
}

// P9.1
func TestCheckTwice(t *testing.T) {
	checkError(t, api.ErrTwice, types("a", "a"))
	checkError(t, api.ErrTwice, types("a", "b", "a"))
	checkError(t, api.ErrTwice, types("a", "b", "b"))
	checkError(t, api.ErrTwice, types("a", "b", "c", "d", "e", "f", "g", "a"))
	checkError(t, api.ErrTwice, types("", ""))
	checkError(t, api.ErrTwice, types("", "a", ""))
	checkError(t, api.ErrTwice, types("br", "br"))
	// Attributes and contents do not tell types apart.
	checkError(t, api.ErrTwice, types("a[id]=b", "a"))
	// A type may have the name of an attribute, and two types attributes of the same name.
	checkOK(t, types("a[a,b]", "b[a,b]"))
}

// P9.1
func TestCheckForm(t *testing.T) {
	checkError(t, api.ErrForm, types("=a"))
	checkError(t, api.ErrForm, types("=()"))
	checkError(t, api.ErrForm, types("=("))
	checkError(t, api.ErrForm, types("[id]"))
	checkError(t, api.ErrForm, types("p", "[id]=a"))
	checkError(t, api.ErrForm, []api.Type{{Attrs: []string{""}}})
	checkError(t, api.ErrForm, []api.Type{{Attrs: []string{"a", "a", "b", "c", "d"}}})
	for _, name := range rawNames {
		checkError(t, api.ErrForm, types(name))
		checkError(t, api.ErrForm, types(name+"[id]=()"))
		checkError(t, api.ErrForm, types(name+"[A]=a"))
		checkError(t, api.ErrForm, types("p", name))
		checkOK(t, types(name+"s", "x"+name))
		checkOK(t, types("p["+name+"]"))
	}
	for _, name := range voidNames {
		checkOK(t, types(name))
		checkOK(t, types(name+"[id,class]"))
		checkOK(t, types("p["+name+"]=a*"))
		checkOK(t, types(name+"s=a*", "x"+name+"=b*"))
		for _, content := range []string{"()", "()|()", "a", "b*", "|", "(", "i", strings.Repeat("b", 40)} {
			checkError(t, api.ErrForm, types(name+"="+content, "p"))
			checkError(t, api.ErrForm, types("p=b*", name+"[A]="+content))
		}
	}
}

// P9.1
func TestCheckAttrs(t *testing.T) {
	checkOK(t, types("p[a]"))
	checkOK(t, types("p[a,b,c,d]"))
	checkOK(t, types("p[d,b,a,c]"))
	checkError(t, api.ErrSize, types("p[a,b,c,d,e]"))
	checkError(t, api.ErrSize, types("p[a,a,a,a,a]"))
	checkError(t, api.ErrTwice, types("p[a,a]"))
	checkError(t, api.ErrTwice, types("p[a,b,c,a]"))
	checkError(t, api.ErrTwice, types("p[a,b,c,c]"))
	checkError(t, api.ErrTwice, types("br[a,b,b]"))
	checkError(t, api.ErrName, types("p[a,b,c,d,E]"))
	checkError(t, api.ErrName, types("p[a,a,A]"))
	checkError(t, api.ErrName, []api.Type{{Name: "p", Attrs: append(make([]string, 1<<12), "a")}})
	checkError(t, api.ErrSize, []api.Type{{Name: "p", Attrs: slices.Repeat([]string{"a"}, 1<<12)}})
}

// P9.1
func TestCheckContent(t *testing.T) {
	times := strings.Repeat
	for _, content := range []string{
		"(", ")", "(a", "a)", "*", "+a", "a|*", "i", "A", "a b", "a,b", "é", "\x00", times("()", 21), times("a", 41), times("a", 1<<20), "a" + times("*", 40), "(" + times("a", 39), times("i", 41),
	} {
		checkError(t, api.ErrForm, types("p="+content))
		checkError(t, api.ErrForm, types("p", "q[id]="+content))
	}
	for _, content := range []string{"b" + times("*", 39), times("()", 20), "b()*", "((b))", "b**", "b|", "|b", "|", times("b", 39), "(bbbbb)*|(bbbbbbbb)*", "(b|c)*b(b|c)(b|c)(b|c)(b|c)"} {
		checkOK(t, types("p="+content, "q", "r", ""))
		checkOK(t, types("", "q", "r", "p="+content))
	}
	for _, content := range []string{
		times("a", 40), times("b", 40), times("h", 40), "(b|c)*b(b|c)(b|c)(b|c)(b|c)(b|c)", "(aaaaaa)*|(aaaaaaa)*", "(aaaa(aaaaaa?|b)aaa)+ba+ba+ba+ba+ba+ba+b",
	} {
		checkError(t, api.ErrSize, types("p="+content, "q", ""))
		checkError(t, api.ErrSize, types("", "q", "p="+content))
	}
}

// P9.1
func TestCheckRange(t *testing.T) {
	names := []string{"p", "q", "r", "s", "t", "u", "v", "w"}
	for count := 1; count <= 8; count++ {
		for letter := range 8 {
			name := "abcdefgh"[letter:][:1]
			for _, content := range []string{name + "*", "(" + name + "|)", "(a" + name + ")?", "a*" + name + "*", "((((" + name + "))?)*)?"} {
				rows := slices.Clone(names[:count])
				rows[count/2] += "=" + content
				want := api.OK
				if letter >= count {
					want = api.ErrRange
				}
				checkCheck(t, want, types(rows...))
			}
		}
	}
	checkError(t, api.ErrRange, types("a=b"))
	checkError(t, api.ErrRange, types("a=aaaaaah"))
	checkError(t, api.ErrRange, types("a", "b", "c", "d", "e", "f", "g=h"))
	checkError(t, api.ErrForm, types("a", "b", "c", "d", "e", "f", "g", "h=i"))
}

// P9.1
func TestCheckTexts(t *testing.T) {
	for _, content := range []string{
		"bb", "b*", "b+", "cbb", "bbc", "cbbc", "b?b", "b?b?", "(b|c)*", "(b|c)(b|c)", "(bc?)+", "(c*b)+", "(bc*)*", "b(c*)b", "b()b", "(cb)?(bc)?", "(cb|bc)+", "bcb|cbb", "b|c|bb", "((b))((b))", "(b|)(|b)",
		"c*b*", "(bcb)*", "bc*c*c*b", "ccccccccccccbcbcbcbbcb",
	} {
		checkError(t, api.ErrForm, types("p="+content, "", "br"))
		// Other types may stand twice in a row.
		checkOK(t, types("p="+content, "q", "br"))
		checkOK(t, types("p="+content, "q", "br", ""))
	}
	for _, content := range []string{
		"b", "b?", "bcb", "(bc)*", "(bc)*b?", "(cb)*c?", "(c+b)*", "b(cb)*", "(b?c)*b?", "b|c", "b|bc", "(b|bcb)c*", "c*", "cc", "a*", "(a|c)*", "(b(a|c))*", "b?(a|c)+b?", "(b|)c",
	} {
		checkOK(t, types("p="+content, "", "br"))
	}
	// Any number may be that of the text type.
	checkError(t, api.ErrForm, types("", "p=aa"))
	checkError(t, api.ErrForm, types("", "p=a", "q=(aba)*"))
	checkError(t, api.ErrForm, types("p=hh", "q", "r", "s", "t", "u", "v", ""))
	checkOK(t, types("p=gg", "q", "r", "s", "t", "u", "v", ""))
	checkOK(t, types("", "p=bb?|a", "q=aba"))
}

// P9.1: the last type without a Name is the text type, and no other one.
func TestCheckSeveralTexts(t *testing.T) {
	checkError(t, api.ErrTwice, types("=a", ""))
	checkError(t, api.ErrTwice, types("[id]", ""))
	checkError(t, api.ErrTwice, types("[id]=ab", ""))
	checkError(t, api.ErrTwice, types("=aa", ""))
	checkError(t, api.ErrForm, types("=bb", ""))
	checkError(t, api.ErrTwice, types("", "p=aa", ""))
	checkError(t, api.ErrForm, types("", "p=cc", ""))
	checkError(t, api.ErrTwice, types("", "p=(ac)*", ""))
	checkError(t, api.ErrTwice, types("", "p=bb", "", "q=cc", ""))
	checkError(t, api.ErrForm, types("", "p=ee", "", "q=cc", ""))
	checkError(t, api.ErrTwice, types("", "=a"))
	checkError(t, api.ErrTwice, types("", "=a", ""))
	checkError(t, api.ErrTwice, types("", "", "=a"))
	checkError(t, api.ErrRange, types("=c", ""))
	checkError(t, api.ErrForm, types("=(", ""))
	checkError(t, api.ErrSize, types("="+strings.Repeat("a", 40), ""))
	checkError(t, api.ErrName, types("[A]", ""))
	checkError(t, api.ErrTwice, types("[a,a]", ""))
	checkError(t, api.ErrSize, types("[a,b,c,d,e]", ""))
	checkError(t, api.ErrName, types("", "A", ""))
}

// P9.1
func TestCheckEmpty(t *testing.T) {
	checkError(t, api.ErrEmpty, types("a=a"))
	checkError(t, api.ErrEmpty, types("a=a+"))
	checkError(t, api.ErrEmpty, types("a=a|aa"))
	checkError(t, api.ErrEmpty, types("a=b", "b=a"))
	checkError(t, api.ErrEmpty, types("a=b", "b=c", "c=d", "d=e", "e=f", "f=g", "g=h", "h=a"))
	checkError(t, api.ErrEmpty, types("a=bc", "b", "c=a+b"))
	checkError(t, api.ErrEmpty, types("a=b", "b=a|ca", ""))
	// Each type needs a tree, even if no other one has it as a part.
	checkError(t, api.ErrEmpty, types("a", "b=b"))
	checkError(t, api.ErrEmpty, types("a=b?", "b=b"))
	checkError(t, api.ErrEmpty, types("", "a=b*", "b=cd", "c=c|b", "d"))
	checkOK(t, types("a=a?"))
	checkOK(t, types("a=a|"))
	checkOK(t, types("a=(aaa)*"))
	checkOK(t, types("a=aa|b", ""))
	checkOK(t, types("a=b", "b=a?"))
	checkOK(t, types("a=b", "b=c|a", "c=d|ab", "d=e|abc", "e=f", "f=g", "g=h|a", "h"))
}

// P9.1: smallest trees that are just small enough, and others.
func TestCheckEmptyLimit(t *testing.T) {
	times := strings.Repeat
	checkSizes(t, []int{149, 37, 1}, types("a=bbbb", "b="+times("c", 36), "c"))
	checkSizes(t, []int{150, 37, 1}, types("a=bbbbc", "b="+times("c", 36), "c"))
	checkError(t, api.ErrEmpty, types("a=bbbbcc", "b="+times("c", 36), "c"))
	checkError(t, api.ErrEmpty, types("a=bbbbc", "b="+times("c", 37), "c"))
	checkSizes(t, []int{1, 37, 149, 150}, types("a", "b="+times("a", 36), "c=bbbb", "d=c"))
	checkError(t, api.ErrEmpty, types("a", "b="+times("a", 36), "c=bbbb", "d=c", "e=d"))
	checkSizes(t, []int{3, 7, 15, 31, 63, 127, 150, 1}, types("a=hh", "b=aa", "c=bb", "d=cc", "e=dd", "f=ee", "g=f"+times("h", 22), "h"))
	checkError(t, api.ErrEmpty, types("a=hh", "b=aa", "c=bb", "d=cc", "e=dd", "f=ee", "g=f"+times("h", 23), "h"))
	// A word of too many nodes does no harm beside another one.
	checkSizes(t, []int{2, 150, 149, 37, 1}, types("a=b|c|d|e", "b=c", "c=dddd", "d="+times("e", 36), "e"))
	checkSizes(t, []int{2, 37, 1}, types("a=bbbbbbbbb|c", "b="+times("c", 36), "c"))
	checkSizes(t, []int{38, 37, 1}, types("a=bbbbb|b|bbbb", "b="+times("c", 36), "c"))
	// Numbers of nodes that are far too large.
	long := func(letter string) string { return "=" + times(letter, 39) }
	checkError(t, api.ErrEmpty, types("a"+long("b"), "b"+long("c"), "c"+long("d"), "d"+long("e"), "e"+long("f"), "f"+long("g"), "g"+long("h"), "h"))
	checkError(t, api.ErrEmpty, types("a", "b"+long("a"), "c"+long("b"), "d"+long("c"), "e"+long("d"), "f"+long("e"), "g"+long("f"), "h"+long("g")))
	checkError(t, api.ErrEmpty, types("a"+long("a")))
}

// P9.1: the first error of a type counts, and the first type with an error.
func TestCheckOrder(t *testing.T) {
	const name, attrs, content = 0, 1, 2
	// What is wrong with a type behind a and the text type, in the order of the chapter.
	rows := []struct {
		what int
		want api.Errno
		make func(x *api.Type)
	}{
		{name, api.ErrName, func(x *api.Type) { x.Name = "A" }},
		{name, api.ErrTwice, func(x *api.Type) { x.Name = "a" }},
		{name, api.ErrForm, func(x *api.Type) { x.Name = "title" }},
		{attrs, api.ErrName, func(x *api.Type) { x.Attrs = []string{"a", "a", "b", "c", ""} }},
		{attrs, api.ErrSize, func(x *api.Type) { x.Attrs = []string{"a", "a", "b", "c", "d"} }},
		{attrs, api.ErrTwice, func(x *api.Type) { x.Attrs = []string{"a", "a", "b", "c"} }},
		{content, api.ErrForm, func(x *api.Type) { x.Content = "b)" }},
		{content, api.ErrSize, func(x *api.Type) { x.Content = strings.Repeat("h", 40) }},
		{content, api.ErrRange, func(x *api.Type) { x.Content = "bbch" }},
		{content, api.ErrForm, func(x *api.Type) { x.Content = "bbc" }},
		{content, api.ErrEmpty, func(x *api.Type) { x.Content = "c" }},
	}
	for i, row := range rows {
		x := api.Type{Name: "p"}
		row.make(&x)
		checkError(t, row.want, []api.Type{{Name: "a"}, {}, x})
		for j, other := range rows {
			both := x
			other.make(&both)
			if other.what != row.what {
				checkError(t, rows[min(i, j)].want, []api.Type{{Name: "a"}, {}, both})
			}
			next := api.Type{Name: "q"}
			other.make(&next)
			// That there is no tree is an error of the whole schema.
			want := row.want
			if want == api.ErrEmpty {
				want = other.want
			}
			checkError(t, want, []api.Type{{Name: "a"}, {}, x, next})
		}
	}
}

// contents are what types of small schemas may have, with words of at most five letters for the smallest trees.
var contents = []string{"", "()", "a", "b", "c", "ab", "ca", "bcb", "a|b", "c|b", "b|ca", "aa|b", "ab|c", "ba|ab|cb", "(a|b)c", "c(b|aa)", "a*", "b+", "c?", "(ab)*", "(b|c)+", "a*b", "b?c", "(bc)+a?", "(ca|b)+", "(a|bb)(c|ab)", "d", "bd?", "("}

// P9.1, P9.2
func TestCheckEvery(t *testing.T) {
	valid := 0
	for _, names := range [][]string{{"a"}, {""}, {"a", "b"}, {"a", ""}, {"", "b"}, {"", ""}, {"br", "b"}, {"a", "b", "c"}, {"a", "", "c"}} {
		every(contents, len(names), func(l []string) {
			if len(l) != len(names) {
				return
			}
			var s []api.Type
			for i, name := range names {
				s = append(s, api.Type{Name: name, Content: l[i]})
			}
			checkExpected(t, s)
			if schema.Check(s) == api.OK {
				valid++
			}
		})
	}
	if valid < 2000 {
		t.Errorf("only %d schemas were valid", valid)
	}
}

// P9.1: all that a type may be, in all short schemas.
func TestCheckTypes(t *testing.T) {
	pieces := types("", "=a", "=bb", "[id]", "a", "a=a", "b=cc", "b=ab|b?", "A", "br", "br=a", "br[id]", "title", "c[a,a]", "c[a,b,c,d,e]=(", "c[A,b]", "c=a)", "c=dd", "d="+strings.Repeat("a", 40), "d[id]=(ca|cb)*", "d=a?b?c?")
	every(pieces, 3, func(l []api.Type) { checkExpected(t, l) })
}

// randomContent returns the text of an expression of about so many nodes.
func randomContent(r *rand.Rand, nodes int, letter func() int) string {
	if nodes <= 1 {
		return "abcdefgh"[letter():][:1]
	}
	part := func(size int) string { return randomContent(r, size, letter) }
	first := 1 + r.Intn(nodes-1)
	switch r.Intn(8) {
	case 0:
		return "(" + part(nodes-1) + ")*"
	case 1:
		return "(" + part(nodes-1) + ")+"
	case 2:
		return "(" + part(nodes-1) + ")?"
	case 3, 4:
		return "(" + part(first) + "|" + part(nodes-first) + ")"
	}
	return part(first) + part(nodes-first)
}

// randomSchema returns a schema that may be valid: most parts of a type are types behind it.
func randomSchema(r *rand.Rand) []api.Type {
	l := types("doc", "p[id]", "q[id,class]", "r", "s[a,b,c,d]", "t", "u", "v")[:1+r.Intn(8)]
	if r.Intn(2) == 0 {
		l[r.Intn(len(l))] = api.Type{}
	}
	for i := range l {
		letter := func() int {
			if i == len(l)-1 || r.Intn(12) == 0 {
				return r.Intn(len(l))
			}
			return i + 1 + r.Intn(len(l)-i-1)
		}
		if l[i].Name != "" && i < len(l)-1 || r.Intn(8) == 0 {
			l[i].Content = randomContent(r, 1+r.Intn(12), letter)
		}
		// A word alone makes larger trees than an expression with choices.
		for n := r.Intn(5); l[i].Content != "" && n > 2; n-- {
			l[i].Content += "abcdefgh"[letter():][:1]
		}
	}
	return l
}

// P9.1, P9.2
func TestRandom(t *testing.T) {
	r := rand.New(rand.NewSource(9))
	valid, large := 0, 0
	for range 4000 {
		l := randomSchema(r)
		checkExpected(t, l)
		if sizes, err := schema.Sizes(l); err == api.OK {
			valid++
			if slices.Max(sizes) > 20 {
				large++
			}
		}
	}
	if valid < 2000 || large < 100 {
		t.Errorf("only %d schemas were valid, and %d had larger trees", valid, large)
	}
}

// P9.2
func TestSizes(t *testing.T) {
	checkSizes(t, []int{1}, types(""))
	checkSizes(t, []int{1}, types("a"))
	checkSizes(t, []int{1}, types("br[id]"))
	checkSizes(t, []int{1}, types("a=a*"))
	checkSizes(t, []int{2, 1}, types("a=b", ""))
	checkSizes(t, []int{1, 2}, types("", "a=a"))
	checkSizes(t, []int{2, 1}, types("a=b+", "b"))
	checkSizes(t, []int{2, 1}, types("a=aaa|aab|b", "b"))
	checkSizes(t, []int{2, 1, 1, 1}, types("doc=b+", "p[id]=(d|cd)*c?", "", "br"))
	checkSizes(t, []int{4, 3, 2, 1}, types("a=b", "b=c", "c=d", ""))
	checkSizes(t, []int{1, 2, 3, 4}, types("", "c=a", "b=b", "a=c"))
	checkSizes(t, []int{8, 7, 6, 5, 4, 3, 2, 1}, types("a=b", "b=c", "c=d", "d=e", "e=f", "f=g", "g=h", "h"))
	checkSizes(t, []int{1, 2, 3, 4, 5, 6, 7, 8}, types("a", "b=a", "c=b", "d=c", "e=d", "f=e", "g=f", "h=g"))
	// The shortest word is not always that of the smallest trees.
	checkSizes(t, []int{4, 6, 1}, types("a=b|ccc", "b=ccccc", "c"))
	checkSizes(t, []int{3, 3, 1}, types("a=b|cc", "b=cc", "c"))
	checkSizes(t, []int{3, 4, 5, 1}, types("a=dd|b|c", "b=a", "c=b", "d"))
	// Types within themselves.
	checkSizes(t, []int{3, 2, 1}, types("a=a?b", "b=(a|b|c)+", "c"))
	checkSizes(t, []int{3, 4, 1}, types("a=b|cc", "b=a|ccccc", "c"))
}

// P9.2
func TestFill(t *testing.T) {
	b, c, d, x := element("b"), element("c"), element("d"), text("x")
	checkFill(t, x, types(""), 0)
	checkFill(t, x, types("a", ""), 1)
	checkFill(t, element("a"), types("a"), 0)
	checkFill(t, element("br"), types("", "br[id]"), 1)
	checkFill(t, element("a"), types("a[id,class]=b?", ""), 0)
	checkFill(t, element("a", x), types("a[id]=b", ""), 0)
	checkFill(t, element("doc", element("p")), types("doc=b+", "p[id]=(d|cd)*c?", "", "br"), 0)
	checkFill(t, element("a", element("b", element("c", x))), types("a=b", "b=c", "c=d", ""), 0)
	checkFill(t, element("b", element("c", x)), types("a=b", "b=c", "c=d", ""), 1)
	checkFill(t, element("a", x, element("br"), x), types("a=bcb", "", "br"), 0)
	// As few nodes as possible come first, then the types, and the length of the word does not count.
	checkFill(t, element("a", c), types("a=bb|c", "b", "c"), 0)
	checkFill(t, element("a", b), types("a=c|b", "b", "c"), 0)
	checkFill(t, element("a", b, c), types("a=cb|bc|cc", "b", "c"), 0)
	checkFill(t, element("a", c, d), types("a=b|dc|cd", "b=ddd", "c", "d"), 0)
	checkFill(t, element("a", c, d), types("a=bdd|cd", "b", "c", "d"), 0)
	checkFill(t, element("a", b, b), types("a=c|bb", "b", "c=b"), 0)
	checkFill(t, element("a", element("b", c)), types("a=cc|b", "b=c", "c"), 0)
	checkFill(t, element("a", b, c, c), types("a=bd|bcc", "b", "c", "d=b"), 0)
	checkFill(t, element("a", d, b), types("a=(b|c)*d(c|b)", "b", "c", "d"), 0)
	checkFill(t, element("a", element("b", c), element("b", c)), types("a=bb", "b=d|c", "c", "d"), 0)
	checkFill(t, element("a", element("c", d), d), types("a=(b|c)(b|d)", "b=dd", "c=d|a", "d"), 0)
	// A whole tree may be as large as it can be.
	twig := element("b", slices.Repeat([]api.Node{c}, 36)...)
	checkFill(t, element("a", twig, twig, twig, twig, c), types("a=bbbbc", "b="+strings.Repeat("c", 36), "c"), 0)
}

// P9.2
func TestFillRange(t *testing.T) {
	for _, l := range [][]api.Type{types(""), types("a"), types("a", ""), types("a", "b", "c", "d", "e", "f", "g", "h")} {
		for _, number := range []int{-1, len(l), len(l) + 1, 8, 1 << 32, -1 << 32, math.MaxInt, math.MinInt} {
			if n, err := schema.Fill(l, number); !isZero(n) || err != api.ErrRange {
				t.Errorf("Fill(%s, %d) = %s, %v, want ErrRange", shown(l), number, shown(n), err)
			}
		}
		checkFill(t, expectedFill(l, expectedSizes(l), len(l)-1), l, len(l)-1)
	}
}

// P9.2: the types of the parts against all words that match.
func TestFillEvery(t *testing.T) {
	var words [][]int
	every([]int{0, 1, 2}, 5, func(word []int) { words = append(words, word) })
	matched := map[string][][]int{}
	for _, content := range contents {
		x, err := expr.Parse(content)
		for _, word := range words {
			if is, _ := expr.Match(x, word); is && err == api.OK {
				matched[content] = append(matched[content], word)
			}
		}
	}
	names := []string{"a", "b", "c"}
	every(contents, 3, func(l []string) {
		if len(l) != 3 {
			return
		}
		s := []api.Type{{Name: "a", Content: l[0]}, {Name: "b", Content: l[1]}, {Name: "c", Content: l[2]}}
		sizes, err := schema.Sizes(s)
		for number := 0; number < 3 && err == api.OK; number++ {
			sum := func(word []int) int {
				nodes := 0
				for _, letter := range word {
					nodes += sizes[letter]
				}
				return nodes
			}
			want := slices.MinFunc(matched[l[number]], func(a, b []int) int {
				if sum(a) != sum(b) {
					return sum(a) - sum(b)
				}
				return slices.Compare(a, b)
			})
			var got []int
			n, _ := schema.Fill(s, number)
			for _, part := range n.Parts {
				got = append(got, slices.Index(names, part.Name))
			}
			if !slices.Equal(got, want) || sizes[number] != 1+sum(want) {
				t.Errorf("Fill(%s, %d) has the parts %v and %d nodes, want %v", shown(s), number, got, sizes[number], want)
			}
		}
	})
}

// page is a schema that most trees below are checked with.
func page() []api.Type {
	return types("doc=(b|e)+", "p[id,class]=(c?d)*c?", "", "br[id]", "ul=f+", "li[id]=c|b*|e")
}

// P9.3
func TestValid(t *testing.T) {
	l := page()
	x, br, p := text("x"), element("br"), element("p")
	li, ul := element("li", x), element("ul", element("li", x))
	for _, parts := range [][]api.Node{
		{p}, {p, p}, {ul}, {p, ul, p}, {element("p", x)}, {element("p", br)}, {element("p", x, br, br, x)}, {element("p", br, text("<"), br)},
		{element("ul", li, element("li"), element("li", p, p), element("li", ul))},
		{with(p, "id")}, {with(p, "class", "id")}, {with(element("p", with(br, "id")), "id"), element("ul", with(li, "id"))},
		{element("p", text(" "))}, {element("p", text("\x00\xff"))}, {{Name: "p", Attrs: []api.Attr{}, Parts: []api.Node{}}},
	} {
		checkValid(t, api.OK, l, element("doc", parts...))
	}
	for _, value := range []string{"", "x", `"`, "\x00\xff", strings.Repeat("x", 1<<16)} {
		checkValid(t, api.OK, l, element("doc", api.Node{Name: "p", Attrs: []api.Attr{{Name: "id", Value: value}}}))
		checkValid(t, api.OK, types(""), api.Node{Text: "x" + value})
	}
}

// P9.3
func TestValidName(t *testing.T) {
	l := page()
	p := element("p")
	// The root.
	for _, name := range []string{"", "p", "br", "li", "q", "Doc", "doc ", "do", "docs", "\x00"} {
		checkValid(t, api.ErrName, l, element(name))
		checkValid(t, api.ErrName, l, element(name, p))
		checkValid(t, api.ErrName, l, withText(with(element(name, element("q")), "q"), "x"))
	}
	checkValid(t, api.ErrName, types("a", "b"), element("b"))
	checkValid(t, api.OK, types("b", "a"), element("b"))
	checkValid(t, api.OK, types("a=a*"), element("a", element("a", element("a"), element("a"))))
	// Another node.
	for _, name := range []string{"q", "P", "p ", "pp", "\xff", "x-y", "title"} {
		n := element(name)
		for _, parts := range [][]api.Node{{n}, {p, n}, {n, p}, {p, n, p}, {element("p", n)}, {p, element("p", text("x"), n)}, {element("ul", element("li", p, n))}, {element(name, n)}, {with(n, "q")}, {withText(n, "x")}} {
			checkValid(t, api.ErrName, l, element("doc", parts...))
		}
	}
	// A text without a text type, whatever is in it.
	for _, n := range []api.Node{text("x"), {}, with(text("x"), "id"), element("", p)} {
		checkValid(t, api.ErrName, types("a=b*", "b"), element("a", n))
		checkValid(t, api.ErrName, types("a=b*", "b"), element("a", element("b"), n))
		checkValid(t, api.ErrName, types("a=b*", "b"), n)
	}
}

// P9.3
func TestValidForm(t *testing.T) {
	l := page()
	p, br, x := element("p"), element("br"), text("x")
	for _, n := range []api.Node{
		with(p, "name"), with(p, "ID"), with(p, ""), with(p, "id", "name"), with(p, "name", "id"), with(p, "id", "id"), with(p, "id", "class", "id"), with(p, "class", "class", "id"), with(p, "id", "id", "id", "id", "id"),
		with(p, slices.Repeat([]string{"id"}, 1<<16)...), {Name: "p", Attrs: []api.Attr{{Name: "id", Value: "x"}, {Name: "id", Value: "y"}}}, {Name: "p", Attrs: []api.Attr{{Value: "id"}}},
		withText(p, "x"), withText(p, "\x00"), withText(element("p", x), "x"), withText(with(p, "id"), "x"),
		element("p", with(x, "id")), element("p", with(x, "")), element("p", with(text(""), "id")), element("p", text("")), element("p", api.Node{}), element("p", x, br, text("")), element("p", br, withText(element("", x), "x")), element("p", element("", x)), element("p", withText(element("", element("q")), "x")),
		element("p", with(br, "class")), element("p", with(br, "id", "id")), element("p", withText(br, "x")), element("p", x, withText(br, "x")),
		element("ul", with(element("li"), "class")), with(element("ul", element("li")), "id"),
	} {
		checkValid(t, api.ErrForm, l, element("doc", n))
		checkValid(t, api.ErrForm, l, element("doc", p, n, p))
	}
	for _, n := range []api.Node{with(element("doc"), "id"), withText(element("doc"), "x"), with(element("doc", p), "doc"), withText(element("doc", p), "x"), withText(element("doc", element("q")), "x"), with(element("doc", br), "id")} {
		checkValid(t, api.ErrForm, l, n)
	}
	for _, n := range []api.Node{{}, with(text("x"), "id"), with(text("x"), ""), withText(element("", x), "x"), element("", x), element("", p)} {
		checkValid(t, api.ErrForm, types(""), n)
		checkValid(t, api.ErrForm, types("", "p[id]=a"), n)
	}
}

// P9.3
func TestValidEmpty(t *testing.T) {
	l := page()
	p, br, x := element("p"), element("br"), text("x")
	ul, li := element("ul", element("li")), element("li")
	checkValid(t, api.ErrEmpty, l, element("doc"))
	for _, n := range []api.Node{
		br, x, li, element("doc", p), element("p", p), element("p", x, x), element("p", br, x, x), element("p", ul), element("p", element("br", x)), element("p", element("br", br)), element("p", x, element("br", element("p"))),
		element("ul"), element("ul", p), element("ul", li, p), element("ul", p, li), element("ul", x), element("ul", ul),
		element("ul", element("li", x, p)), element("ul", element("li", p, x)), element("ul", element("li", x, x)), element("ul", element("li", ul, ul)), element("ul", element("li", ul, p)), element("ul", element("li", br)), element("ul", li, element("li", li)),
	} {
		checkValid(t, api.ErrEmpty, l, element("doc", n))
		checkValid(t, api.ErrEmpty, l, element("doc", p, n))
	}
	checkValid(t, api.ErrEmpty, types("a", "b"), element("a", element("b")))
	checkValid(t, api.ErrEmpty, types("a=()", "b"), element("a", element("b")))
	checkValid(t, api.ErrEmpty, types("a=bc", "b", "c"), element("a", element("b")))
	checkValid(t, api.ErrEmpty, types("a=bc", "b", "c"), element("a", element("c")))
	checkValid(t, api.ErrEmpty, types("a=bc", "b", "c"), element("a", element("c"), element("b")))
	checkValid(t, api.ErrEmpty, types("a=bc", "b", "c"), element("a", element("b"), element("c"), element("c")))
	checkValid(t, api.OK, types("a=bc", "b", "c"), element("a", element("b"), element("c")))
}

// P9.3: the first node with an error counts, and the first error of a node.
func TestValidOrder(t *testing.T) {
	l := page()
	p, br, q := element("p"), element("br"), element("q")
	bad := with(p, "name")
	short := element("ul")
	check := func(want api.Errno, parts ...api.Node) {
		t.Helper()
		checkValid(t, want, l, element("doc", parts...))
	}
	check(api.ErrName, q, bad)
	check(api.ErrName, q, short)
	check(api.ErrForm, bad, q)
	check(api.ErrForm, bad, short)
	check(api.ErrEmpty, short, q)
	check(api.ErrEmpty, short, bad)
	// Parts come behind the node that they are in, and ahead of the next one.
	check(api.ErrForm, with(element("p", q), "name"))
	check(api.ErrForm, withText(element("p", p), "x"))
	check(api.ErrForm, withText(element("ul"), "x"))
	check(api.ErrEmpty, element("p", bad))
	check(api.ErrEmpty, element("p", short))
	check(api.ErrEmpty, with(br, "name"))
	check(api.ErrEmpty, withText(br, "x"), bad)
	check(api.ErrEmpty, element("p", element("br", text(""))))
	check(api.ErrName, element("p", q), bad)
	check(api.ErrName, element("ul", element("li", q)), short)
	check(api.ErrForm, element("ul", element("li", text(""))), q)
	check(api.ErrEmpty, element("ul", element("li", element("ul"))), q)
	// With a part of no type it is not known whether the parts form a word.
	check(api.ErrName, br, q)
	check(api.ErrName, q, br)
	check(api.ErrForm, br, bad, q)
	check(api.ErrForm, br, text(""), q)
	check(api.ErrEmpty, br, short, q)
	check(api.ErrEmpty, br, element("p", p), q)
	check(api.ErrName, br, element("p", p, q), q)
	check(api.ErrForm, br, element("p", p, with(br, "name"), q), q)
	check(api.ErrEmpty, element("p", p, element("p", element("br", p), q)), element("q", bad))
	check(api.ErrName, element("p", q, element("br", p)))
	check(api.ErrEmpty, element("p", element("br", p), q))
	// What is within a part does not count for the word.
	check(api.ErrEmpty, br, element("p", q))
	check(api.ErrEmpty, element("p", p), element("q"))
	checkValid(t, api.ErrEmpty, types("a", "b=c", "c"), element("a", element("b", q)))
}

// P9.3: trees have as many nodes as they like, in words that are as long and trees that are as deep as they like.
func TestValidLarge(t *testing.T) {
	l := page()
	for _, count := range []int{39, 40, 41, 149, 150, 151, 1 << 16} {
		items := slices.Repeat([]api.Node{element("li")}, count)
		pairs := slices.Repeat([]api.Node{element("br"), text("x")}, count)
		checkValid(t, api.OK, l, element("doc", element("ul", items...)))
		checkValid(t, api.OK, l, element("doc", element("p", pairs...)))
		checkValid(t, api.OK, l, element("doc", slices.Repeat([]api.Node{element("p", text("x"))}, count)...))
		checkValid(t, api.ErrEmpty, l, element("doc", element("ul", append(items, element("br"))...)))
		checkValid(t, api.ErrEmpty, l, element("doc", element("p", append(pairs, text("x"))...)))
		checkValid(t, api.ErrName, l, element("doc", element("ul", append(items, element("q"))...)))
		checkValid(t, api.ErrForm, l, element("doc", element("p", append(pairs, with(element("br"), "name"))...)))
	}
	exactly := types("a="+strings.Repeat("b", 39), "b")
	for _, count := range []int{0, 1, 38, 39, 40, 41, 1 << 16} {
		want := api.ErrEmpty
		if count == 39 {
			want = api.OK
		}
		checkValid(t, want, exactly, element("a", slices.Repeat([]api.Node{element("b")}, count)...))
	}
	for _, depth := range []int{9, 10, 11, 1 << 15} {
		for want, n := range map[api.Errno]api.Node{api.OK: element("a"), api.ErrName: element("q"), api.ErrForm: withText(element("a"), "x"), api.ErrEmpty: element("a", element("b"))} {
			for range depth {
				n = element("a", n)
			}
			checkValid(t, want, types("a=a?", "b"), n)
		}
	}
}

// check compares Valid with the model, and returns the error.
func (m model) check(t *testing.T, n api.Node) api.Errno {
	t.Helper()
	want := m.expectedValid(n)
	if err := schema.Valid(m.types, n); err != want {
		t.Errorf("Valid(%s, %s) = %v, want %v", shown(m.types), shown(n), err, want)
	}
	return want
}

// checkReached tells whether each result of Valid was met so often.
func checkReached(t *testing.T, reached map[api.Errno]int, least int) {
	t.Helper()
	for _, err := range []api.Errno{api.OK, api.ErrName, api.ErrForm, api.ErrEmpty} {
		if reached[err] < least {
			t.Errorf("the result %v was met only %d times", err, reached[err])
		}
	}
}

// P9.3: all small trees of some nodes.
func TestValidEvery(t *testing.T) {
	leaves := []api.Node{element("a"), element("b"), text("x"), element("q"), text(""), with(element("a"), "id"), with(element("b"), "id"), with(text("x"), "id"), withText(element("a"), "x")}
	nodes := slices.Clone(leaves)
	every(leaves[:6], 1, func(parts []api.Node) {
		for _, n := range leaves {
			n.Parts = parts
			nodes = append(nodes, n)
		}
	})
	reached := map[api.Errno]int{}
	for _, l := range [][]api.Type{
		types("a[id]=(bc?)*", "b=a?c?", ""), types("", "a=a?", "b[id]=a?"), types("a=a*"), types("a[id]=a?b", "b"), types("b=b?a*", "a[q,id]=(a|c)?", "", "br"),
	} {
		m := modelOf(l)
		every(nodes, 2, func(parts []api.Node) {
			for _, root := range leaves {
				root.Parts = parts
				reached[m.check(t, root)]++
			}
		})
	}
	checkReached(t, reached, 100)
}

// randomWord returns a word that x matches.
func randomWord(r *rand.Rand, x api.Expr) []int {
	var word []int
	times := 1
	switch x.Kind {
	case api.One:
		return []int{x.Type}
	case api.Alt:
		return randomWord(r, x.Parts[r.Intn(len(x.Parts))])
	case api.Star:
		times = r.Intn(4)
	case api.Plus:
		times = 1 + r.Intn(3)
	case api.Opt:
		times = r.Intn(2)
	}
	for range times {
		for _, part := range x.Parts {
			word = append(word, randomWord(r, part)...)
		}
	}
	return word
}

// randomTree returns a tree of type number, which gets no deeper at random than so many levels.
func randomTree(r *rand.Rand, l []api.Type, number, levels int) api.Node {
	if l[number].Name == "" {
		return text([]string{"x", " ", "<", "text"}[r.Intn(4)])
	}
	n := element(l[number].Name)
	for _, i := range r.Perm(len(l[number].Attrs)) {
		if r.Intn(2) == 0 {
			n = with(n, l[number].Attrs[i])
		}
	}
	x := parsed(l[number].Content)
	word := randomWord(r, x)
	if levels <= 0 {
		_, word = leastWord(x, expectedSizes(l))
	}
	for _, letter := range word {
		n.Parts = append(n.Parts, randomTree(r, l, letter, levels-1))
	}
	return n
}

// changed returns n with a change at one place.
func changed(r *rand.Rand, l []api.Type, n api.Node) api.Node {
	n.Parts = slices.Clone(n.Parts)
	if len(n.Parts) > 0 && r.Intn(4) > 0 {
		i := r.Intn(len(n.Parts))
		n.Parts[i] = changed(r, l, n.Parts[i])
		return n
	}
	names := []string{"id", "class", "a", "d", "q", ""}
	place := r.Intn(len(n.Parts) + 1)
	switch r.Intn(7) {
	case 0:
		n.Name = l[r.Intn(len(l))].Name
	case 1:
		n.Name = names[r.Intn(len(names))]
	case 2:
		n.Text = []string{"", "x"}[r.Intn(2)]
	case 3:
		n.Attrs = append(slices.Clone(n.Attrs), api.Attr{Name: names[r.Intn(len(names))]})
	case 4:
		n.Parts = slices.Insert(n.Parts, place, randomTree(r, l, r.Intn(len(l)), 0))
	case 5:
		n.Parts = slices.Delete(n.Parts, min(place, max(0, len(n.Parts)-1)), min(place+1, len(n.Parts)))
	case 6:
		if len(n.Parts) > 1 {
			i := r.Intn(len(n.Parts) - 1)
			n.Parts[i], n.Parts[i+1] = n.Parts[i+1], n.Parts[i]
		}
	}
	return n
}

// P9.3: random trees of random schemas, and what becomes of them.
func TestValidRandom(t *testing.T) {
	r := rand.New(rand.NewSource(93))
	reached := map[api.Errno]int{}
	for schemas := 0; schemas < 300; {
		l := randomSchema(r)
		if expectedError(l) != api.OK {
			continue
		}
		schemas++
		m := modelOf(l)
		for range 4 {
			n := randomTree(r, l, 0, 2)
			if nodes, _ := tree.Count([]api.Node{n}); nodes > 1000 {
				continue
			}
			if err := m.check(t, n); err != api.OK {
				t.Errorf("the model has %v for %s of %s, which is a tree", err, shown(n), shown(l))
			}
			for range 20 {
				n = changed(r, l, n)
				reached[m.check(t, n)]++
			}
		}
	}
	checkReached(t, reached, 500)
}

// Contents with many sets of places are no harder than auto.Make makes them.
func TestHard(t *testing.T) {
	content := "(b|c)*b(b|c)(b|c)(b|c)(b|c)"
	l := types("a="+content, "b", "c", "d="+content, "e="+content, "f="+content, "g="+content, "h="+content)
	checkSizes(t, []int{6, 1, 1, 6, 6, 6, 6, 6}, l)
	checkFill(t, element("a", slices.Repeat([]api.Node{element("b")}, 5)...), l, 0)
	many := slices.Repeat([]api.Node{element("b"), element("c")}, 1<<15)
	checkValid(t, api.ErrEmpty, l, element("a", many...))
	checkValid(t, api.OK, l, element("a", append(many, element("c"))...))
}

// whole returns all that a list of types has, up to its capacity.
func whole(l []api.Type) string {
	var rows []string
	for _, t := range l[:cap(l)] {
		rows = append(rows, fmt.Sprintf("%q %q %q", t.Name, t.Content, t.Attrs[:cap(t.Attrs)]))
	}
	return fmt.Sprint(rows)
}

// wholeNode returns all that a node has, up to the capacity of its lists.
func wholeNode(n api.Node) string {
	var parts []string
	for _, part := range n.Parts[:cap(n.Parts)] {
		parts = append(parts, wholeNode(part))
	}
	return fmt.Sprintf("%q %q %q %v", n.Name, n.Text, n.Attrs[:cap(n.Attrs)], parts)
}

func TestLeavesItsLists(t *testing.T) {
	roomy := func(rows ...string) []api.Type {
		l := types(append(rows, "spare[a]=b", "title=(")...)
		for i := range l {
			l[i].Attrs = append(l[i].Attrs, "spare", "more")[:len(l[i].Attrs)]
		}
		return l[:len(rows)]
	}
	for _, l := range [][]api.Type{
		roomy("doc[id]=b+", "p[id,class,a,b]=(c|d)*"), roomy("doc[id]=b+", "p[a,b,c,d]=(cd)*", "", "br"), roomy(""), roomy("a=a"), roomy("a", "[id]"), roomy("b[a,a]"), roomy("a", "b", "c", "d", "e", "f", "g", "h", "i"),
	} {
		for _, n := range []api.Node{
			element("doc", with(element("p", text("x"), element("br")), "a"), element("p")), element("doc", with(element("p"), "a", "a")), element("doc", element("q")), text("x"),
		} {
			n.Parts = append(n.Parts, element("spare"), text("more"))[:len(n.Parts)]
			n.Attrs = append(n.Attrs, api.Attr{Name: "spare"}, api.Attr{})[:len(n.Attrs)]
			wantTypes, wantNode := whole(l), wholeNode(n)
			schema.Check(l)
			schema.Sizes(l)
			for number := range 10 {
				schema.Fill(l, number-1)
			}
			schema.Valid(l, n)
			if whole(l) != wantTypes || wholeNode(n) != wantNode {
				t.Errorf("the lists became %s and %s, want %s and %s", whole(l), wholeNode(n), wantTypes, wantNode)
			}
		}
	}
}

// fillUp overwrites the lists of a node up to their capacity, from the inside out.
func fillUp(n api.Node) {
	for i := range n.Parts {
		fillUp(n.Parts[i])
	}
	for i := range n.Parts[:cap(n.Parts)] {
		n.Parts[:cap(n.Parts)][i] = element("full")
	}
	for i := range n.Attrs[:cap(n.Attrs)] {
		n.Attrs[:cap(n.Attrs)][i] = api.Attr{Name: "full"}
	}
}

func TestSharesNothing(t *testing.T) {
	l := types("doc[id]=bbb", "p[id,class]=de|ed", "", "br", "ul=ff", "li=cdc")
	want := whole(l)
	sizes, _ := schema.Sizes(l)
	otherSizes, _ := schema.Sizes(l)
	for i := range sizes[:cap(sizes)] {
		sizes[:cap(sizes)][i] = 99
	}
	if !slices.Equal(otherSizes, expectedSizes(l)) {
		t.Errorf("other sizes became %v", otherSizes)
	}
	for number := range l {
		n, _ := schema.Fill(l, number)
		other, _ := schema.Fill(l, number)
		// The parts of one list are no part of another one.
		for i := range n.Parts {
			fillUp(n.Parts[i])
			for j := i + 1; j < len(n.Parts); j++ {
				if !same(n.Parts[j], other.Parts[j]) {
					t.Fatalf("parts of Fill(%s, %d) share memory", shown(l), number)
				}
			}
		}
		fillUp(n)
		if !same(other, expectedFill(l, expectedSizes(l), number)) {
			t.Errorf("another tree became %s", shown(other))
		}
	}
	if whole(l) != want {
		t.Errorf("the types became %s, want %s", whole(l), want)
	}
}

func FuzzCheck(f *testing.F) {
	f.Add("doc", "(b|c)+", "p", "d*", "id", "class")
	f.Add("a", "bb|c", "", "", "a", "a")
	f.Add("br", "", "a", "a?b(cd)*", "A", "")
	f.Fuzz(func(t *testing.T, name, content, other, otherContent, attr, otherAttr string) {
		first := api.Type{Name: name, Content: content, Attrs: []string{attr}}
		second := api.Type{Name: other, Content: otherContent, Attrs: []string{attr, otherAttr}}
		checkExpected(t, []api.Type{first, second})
		checkExpected(t, []api.Type{{}, first, {Name: "br"}, {Name: "u", Content: otherContent}})
		second.Attrs = nil
		checkExpected(t, []api.Type{first, second, {Name: "c", Content: "d?"}, {Name: "d", Content: "a|b"}})
	})
}

func FuzzValid(f *testing.F) {
	f.Add("<p id=x>a<br>b<p><ul><li>c", "(b|e)+", "(c?d)*c?")
	f.Add("<p><q>a</q>", "b*", "c")
	f.Add("<br class=x>", "d", "(b|c|d)?")
	f.Fuzz(func(t *testing.T, s, content, other string) {
		tokens, _ := tok.Parse(s)
		nodes, err := tree.Build(tokens)
		l := page()
		l[0].Content, l[1].Content = content, other
		if err != api.OK || expectedError(l) != api.OK {
			return
		}
		m := modelOf(l)
		m.check(t, element("doc", nodes...))
		for _, n := range nodes {
			m.check(t, n)
		}
	})
}
