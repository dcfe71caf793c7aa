package expr_test

import (
	"fmt"
	"maps"
	"math"
	"math/rand"
	"regexp"
	"slices"
	"strings"
	"testing"

	"bobbinet/api"
	"bobbinet/expr"
)

// a, b and c are the first letters, h is the last one.
var (
	a = one(0)
	b = one(1)
	c = one(2)
	h = one(api.MaxTypes - 1)
)

func one(letter int) api.Expr {
	return api.Expr{Kind: api.One, Type: letter}
}

func of(kind int, parts ...api.Expr) api.Expr {
	return api.Expr{Kind: kind, Parts: parts}
}

func seq(parts ...api.Expr) api.Expr { return of(api.Seq, parts...) }
func alt(parts ...api.Expr) api.Expr { return of(api.Alt, parts...) }
func star(part api.Expr) api.Expr    { return of(api.Star, part) }
func plus(part api.Expr) api.Expr    { return of(api.Plus, part) }
func opt(part api.Expr) api.Expr     { return of(api.Opt, part) }

func withType(x api.Expr, letter int) api.Expr {
	x.Type = letter
	return x
}

// times returns the expression so often.
func times(n int, x api.Expr) []api.Expr {
	return slices.Repeat([]api.Expr{x}, n)
}

// within returns the expression in depth others of a kind within each other.
func within(depth, kind int, x api.Expr) api.Expr {
	for range depth {
		x = of(kind, x)
	}
	return x
}

// same tells whether the expressions are alike; lists without elements are, nil or not.
func same(x, y api.Expr) bool {
	return x.Kind == y.Kind && x.Type == y.Type && slices.EqualFunc(x.Parts, y.Parts, same)
}

func clone(x api.Expr) api.Expr {
	x.Parts = slices.Clone(x.Parts)
	for i := range x.Parts {
		x.Parts[i] = clone(x.Parts[i])
	}
	return x
}

// shown shortens what a message shows.
func shown(value any) string {
	return fmt.Sprintf("%.400s", fmt.Sprintf("%+v", value))
}

// every calls f with each list of at most so many of the pieces.
func every[T any](pieces []T, most int, f func(l []T)) {
	var extend func(l []T)
	extend = func(l []T) {
		f(l)
		for i := 0; i < len(pieces) && len(l) < most; i++ {
			extend(append(slices.Clip(l), pieces[i]))
		}
	}
	extend(nil)
}

// Below, chapter 7 is written a second time: as a list of all that is wrong, as texts that are put together, as texts that are split at their bars and between their parts, and as sets of words.

// failures returns what is wrong with the expressions, in preorder.
func failures(x api.Expr) []api.Errno {
	var l []api.Errno
	fail := func(err api.Errno, when bool) {
		if when {
			l = append(l, err)
		}
	}
	kinds := []int{api.One, api.Seq, api.Alt, api.Star, api.Plus, api.Opt}
	fail(api.ErrKind, !slices.Contains(kinds, x.Kind))
	fail(api.ErrForm, x.Kind == api.One && len(x.Parts) > 0)
	fail(api.ErrForm, x.Kind != api.One && x.Type != 0)
	fail(api.ErrForm, x.Kind == api.Seq && len(x.Parts) == 1)
	fail(api.ErrForm, x.Kind == api.Alt && len(x.Parts) < 2)
	fail(api.ErrForm, slices.Contains([]int{api.Star, api.Plus, api.Opt}, x.Kind) && len(x.Parts) != 1)
	for _, part := range x.Parts {
		fail(api.ErrForm, x.Kind == api.Seq && part.Kind == api.Seq)
		fail(api.ErrForm, x.Kind == api.Alt && part.Kind == api.Alt)
	}
	fail(api.ErrRange, x.Type < 0 || x.Type >= api.MaxTypes)
	for _, part := range x.Parts {
		l = append(l, failures(part)...)
	}
	return l
}

// expectedText returns the text of a valid expression.
func expectedText(x api.Expr) string {
	var parts []string
	for _, part := range x.Parts {
		text := expectedText(part)
		switch {
		case part.Kind == api.Alt && x.Kind == api.Seq,
			part.Kind == api.Alt && x.Kind >= api.Star,
			part.Kind == api.Seq && x.Kind >= api.Star:
			text = "(" + text + ")"
		}
		parts = append(parts, text)
	}
	switch x.Kind {
	case api.One:
		return "abcdefgh"[x.Type:][:1]
	case api.Seq:
		return strings.Join(parts, "")
	case api.Alt:
		return strings.Join(parts, "|")
	}
	return parts[0] + map[int]string{api.Star: "*", api.Plus: "+", api.Opt: "?"}[x.Kind]
}

func expectedError(x api.Expr) api.Errno {
	if l := failures(x); len(l) > 0 {
		return l[0]
	}
	if len(expectedText(x)) > api.MaxExpr {
		return api.ErrSize
	}
	return api.OK
}

// checkExpected compares Check and Print with what is written above, and Parse with Print.
func checkExpected(t *testing.T, x api.Expr) {
	t.Helper()
	want := expectedError(x)
	if err := expr.Check(x); err != want {
		t.Errorf("Check(%s) = %v, want %v", shown(x), err, want)
	}
	var wantText string
	if want == api.OK {
		wantText = expectedText(x)
	}
	text, err := expr.Print(x)
	if err != want || text != wantText {
		t.Errorf("Print(%s) = %q, %v, want %q, %v", shown(x), text, err, wantText, want)
	}
	if want != api.OK {
		if got, err := expr.Match(x, []int{-1}); got || err != want {
			t.Errorf("Match(%s) = %v, %v, want false, %v", shown(x), got, err, want)
		}
		return
	}
	if again, err := expr.Parse(text); err != api.OK || !same(again, x) {
		t.Errorf("Parse(%q) = %s, %v, want %s", text, shown(again), err, shown(x))
	}
}

func checkError(t *testing.T, want api.Errno, x api.Expr) {
	t.Helper()
	if err := expr.Check(x); err != want {
		t.Errorf("Check(%s) = %v, want %v", shown(x), err, want)
	}
	checkExpected(t, x)
}

func checkText(t *testing.T, want string, x api.Expr) {
	t.Helper()
	if text, err := expr.Print(x); err != api.OK || text != want {
		t.Errorf("Print(%s) = %q, %v, want %q", shown(x), text, err, want)
	}
	checkExpected(t, x)
}

// split cuts s at the separators that are in no parentheses; it is false if the parentheses do not fit.
func split(s string, isSeparator func(before, after string) bool) ([]string, bool) {
	var pieces []string
	depth, from := 0, 0
	for i := range len(s) {
		if depth == 0 && i > from && isSeparator(s[:i], s[i:]) {
			pieces = append(pieces, s[from:i])
			from = i
		}
		switch s[i] {
		case '(':
			depth++
		case ')':
			depth--
		}
		if depth < 0 {
			return nil, false
		}
	}
	return append(pieces, s[from:]), depth == 0
}

// expectedParse reads s from its ends: a text is split at its bars, one without them between its parts, and a part at its last byte.
func expectedParse(s string) (api.Expr, bool) {
	isBar := func(before, after string) bool { return after[0] == '|' }
	isBetween := func(before, after string) bool { return !strings.Contains("*+?", after[:1]) }
	branches, ok := split("|"+s, isBar)
	if !ok {
		return api.Expr{}, false
	}
	var all []api.Expr
	for _, branch := range branches {
		pieces, ok := split(branch[len("|"):], isBetween)
		if !ok {
			return api.Expr{}, false
		}
		var parts []api.Expr
		for _, piece := range pieces {
			if piece == "" {
				continue
			}
			part, ok := expectedPart(piece)
			if !ok {
				return api.Expr{}, false
			}
			parts = append(parts, part)
		}
		all = append(all, merged(api.Seq, parts))
	}
	return merged(api.Alt, all), true
}

// expectedPart reads what no bar and no other part is in.
func expectedPart(s string) (api.Expr, bool) {
	last := s[len(s)-1:]
	if i := strings.Index("*+?", last); i >= 0 && len(s) > 1 {
		x, ok := expectedPart(s[:len(s)-1])
		return of(api.Star+i, x), ok
	}
	if len(s) > 1 && s[0] == '(' && last == ")" {
		return expectedParse(s[1 : len(s)-1])
	}
	return one(int(s[0]) - 'a'), len(s) == 1 && strings.Contains("abcdefgh", s)
}

// merged puts the parts of parts of the same kind in their place.
func merged(kind int, parts []api.Expr) api.Expr {
	for i := 0; i < len(parts); {
		if parts[i].Kind == kind {
			parts = slices.Concat(parts[:i], parts[i].Parts, parts[i+1:])
		} else {
			i++
		}
	}
	if len(parts) == 1 {
		return parts[0]
	}
	return of(kind, parts...)
}

// checkExpectedParse compares Parse with what is written above, and its result, which is valid, with the text of that.
func checkExpectedParse(t *testing.T, s string) {
	t.Helper()
	var want api.Expr
	wantErr := api.ErrSize
	if len(s) <= api.MaxExpr {
		wantErr = api.ErrForm
		if x, ok := expectedParse(s); ok {
			want, wantErr = x, api.OK
		}
	}
	got, err := expr.Parse(s)
	if err != wantErr || !same(got, want) {
		t.Errorf("Parse(%.80q) = %s, %v, want %s, %v", s, shown(got), err, shown(want), wantErr)
	}
	if wantErr != api.OK {
		return
	}
	if err := expectedError(got); err != api.OK {
		t.Errorf("Parse(%q) = %s, which is not valid: %v", s, shown(got), err)
		return
	}
	checkExpected(t, got)
}

func checkParse(t *testing.T, s string, want api.Expr) {
	t.Helper()
	got, err := expr.Parse(s)
	if err != api.OK || !same(got, want) {
		t.Errorf("Parse(%q) = %s, %v, want %s", s, shown(got), err, shown(want))
	}
	checkExpectedParse(t, s)
}

func checkNotParsed(t *testing.T, want api.Errno, s string) {
	t.Helper()
	got, err := expr.Parse(s)
	if err != want || !same(got, api.Expr{}) {
		t.Errorf("Parse(%.80q) = %s, %v, want %v", s, shown(got), err, want)
	}
	checkExpectedParse(t, s)
}

// words returns the words with at most so many letters that are meant, as texts of the letters.
func words(x api.Expr, most int) map[string]bool {
	switch x.Kind {
	case api.One:
		return both(map[string]bool{"": true}, map[string]bool{"abcdefgh"[x.Type:][:1]: true}, most)
	case api.Seq:
		all := map[string]bool{"": true}
		for _, part := range x.Parts {
			all = both(all, words(part, most), most)
		}
		return all
	case api.Alt:
		all := map[string]bool{}
		for _, part := range x.Parts {
			for word := range words(part, most) {
				all[word] = true
			}
		}
		return all
	}
	part := words(x.Parts[0], most)
	all := map[string]bool{"": true}
	if x.Kind == api.Opt {
		maps.Copy(all, part)
		return all
	}
	for range most {
		maps.Copy(all, both(all, part, most))
	}
	if x.Kind == api.Plus {
		return both(part, all, most)
	}
	return all
}

// both returns the words of a word of first and one of second behind it.
func both(first, second map[string]bool, most int) map[string]bool {
	all := map[string]bool{}
	for x := range first {
		for y := range second {
			if len(x+y) <= most {
				all[x+y] = true
			}
		}
	}
	return all
}

// letters returns the word of the letters of s.
func letters(s string) []int {
	var word []int
	for i := range len(s) {
		word = append(word, int(s[i])-'a')
	}
	return word
}

func checkMatch(t *testing.T, want bool, x api.Expr, word string) {
	t.Helper()
	if got, err := expr.Match(x, letters(word)); got != want || err != api.OK {
		t.Errorf("Match(%s, %q) = %v, %v, want %v", shown(expectedText(x)), word, got, err, want)
	}
}

// pattern returns a regular expression of the library that matches the same words.
func pattern(x api.Expr) *regexp.Regexp {
	var write func(x api.Expr) string
	write = func(x api.Expr) string {
		var parts []string
		for _, part := range x.Parts {
			parts = append(parts, write(part))
		}
		switch x.Kind {
		case api.One:
			return expectedText(x)
		case api.Alt:
			return "(?:" + strings.Join(parts, "|") + ")"
		case api.Star, api.Plus, api.Opt:
			parts = append(parts, map[int]string{api.Star: "*", api.Plus: "+", api.Opt: "?"}[x.Kind])
		}
		return "(?:" + strings.Join(parts, "") + ")"
	}
	return regexp.MustCompile(`\A` + write(x) + `\z`)
}

// valid returns all valid expressions of letters of at most so many nodes.
func valid(nodes int, leaves ...api.Expr) []api.Expr {
	bySize := make([][]api.Expr, nodes+1)
	for size := 1; size <= nodes; size++ {
		if size == 1 {
			bySize[1] = append(slices.Clone(leaves), seq())
		}
		for _, part := range bySize[size-1] {
			bySize[size] = append(bySize[size], star(part), plus(part), opt(part))
		}
		for _, parts := range lists(bySize, size-1) {
			for _, x := range []api.Expr{seq(parts...), alt(parts...)} {
				if len(parts) >= 2 && len(failures(x)) == 0 {
					bySize[size] = append(bySize[size], x)
				}
			}
		}
	}
	return slices.Concat(bySize...)
}

// lists returns the lists of expressions that have so many nodes together.
func lists(bySize [][]api.Expr, nodes int) [][]api.Expr {
	if nodes == 0 {
		return [][]api.Expr{nil}
	}
	var all [][]api.Expr
	for size := 1; size <= nodes; size++ {
		for _, first := range bySize[size] {
			for _, rest := range lists(bySize, nodes-size) {
				all = append(all, slices.Concat([]api.Expr{first}, rest))
			}
		}
	}
	return all
}

// random returns an expression of about so many nodes, often a valid one.
func random(r *rand.Rand, nodes int) api.Expr {
	if nodes <= 1 {
		if r.Intn(8) == 0 {
			return seq()
		}
		return one(r.Intn(3))
	}
	kind := api.Seq + r.Intn(5)
	if kind >= api.Star {
		return of(kind, random(r, nodes-1))
	}
	first := 1 + r.Intn(nodes)
	parts := []api.Expr{random(r, first), random(r, nodes-first)}
	if r.Intn(2) == 0 {
		parts = append(parts, random(r, nodes/3))
	}
	return merged(kind, parts)
}

// P7.1
func TestCheckKinds(t *testing.T) {
	for _, x := range []api.Expr{a, h, seq(), seq(a, b), alt(a, b), star(a), plus(a), opt(a)} {
		checkError(t, api.OK, x)
	}
	for _, kind := range []int{0, -1, api.Opt + 1, 8, -8, math.MaxInt, math.MinInt} {
		checkError(t, api.ErrKind, of(kind))
		checkError(t, api.ErrKind, of(kind, a))
		checkError(t, api.ErrKind, of(kind, a, b))
		checkError(t, api.ErrKind, withType(of(kind), -1))
		checkError(t, api.ErrKind, star(of(kind)))
		checkError(t, api.ErrKind, seq(a, of(kind)))
		checkError(t, api.ErrKind, alt(seq(), star(of(kind))))
	}
	checkError(t, api.ErrKind, api.Expr{})
}

// P7.1
func TestCheckForm(t *testing.T) {
	for _, x := range []api.Expr{
		of(api.One, a), of(api.One, seq()), of(api.One, a, b),
		seq(a), seq(star(a)), seq(alt(a, b)), seq(seq()), seq(seq(a, b)),
		alt(), alt(a), alt(seq()), alt(alt(a, b)),
		of(api.Star), of(api.Star, a, b), of(api.Star, seq(), seq(), seq()),
		of(api.Plus), of(api.Plus, a, b), of(api.Opt), of(api.Opt, a, b),
		seq(a, seq()), seq(seq(), a), seq(a, seq(b, c)), seq(a, b, seq(a, b)), seq(a, seq(b, c), b),
		alt(a, alt(b, c)), alt(alt(a, b), c), alt(seq(), a, alt(seq(), seq())),
		withType(seq(), 1), withType(seq(a, b), 1), withType(alt(a, b), 1), withType(star(a), 1), withType(plus(a), 1), withType(opt(a), 1),
	} {
		checkError(t, api.ErrForm, x)
		checkError(t, api.ErrForm, star(x))
		checkError(t, api.ErrForm, seq(a, alt(a, star(x))))
	}
	// Only a part of the same kind is no part, and only right in it.
	for _, x := range []api.Expr{
		seq(a, alt(b, c)), alt(a, seq(b, c)), alt(a, seq()), alt(seq(), seq()), seq(a, star(seq(b, c))), alt(a, opt(alt(b, c))),
		star(star(a)), plus(plus(a)), opt(opt(a)), star(seq()), plus(seq(a, b)), opt(alt(a, b)), seq(a, alt(b, seq(a, b))), alt(a, seq(b, alt(a, b))),
	} {
		checkError(t, api.OK, x)
	}
}

// P7.1
func TestCheckRange(t *testing.T) {
	for letter := -3; letter < api.MaxTypes+3; letter++ {
		want := api.ErrRange
		if 0 <= letter && letter <= 7 {
			want = api.OK
		}
		checkError(t, want, one(letter))
		checkError(t, want, seq(a, one(letter)))
		checkError(t, want, alt(seq(), star(one(letter))))
		if letter != 0 {
			checkError(t, api.ErrForm, withType(seq(), letter))
			checkError(t, api.ErrForm, withType(star(a), letter))
		}
		checkError(t, api.ErrForm, withType(of(api.One, a), letter))
	}
	for _, letter := range []int{256, -256, 1 << 32, math.MaxInt, math.MinInt} {
		checkError(t, api.ErrRange, one(letter))
		checkError(t, api.ErrForm, withType(opt(a), letter))
	}
}

// P7.1: an expression comes ahead of its parts, and a part with its parts ahead of those behind it.
func TestCheckOrder(t *testing.T) {
	kind, form, letter := of(9), of(api.Opt), one(8)
	invalid := map[api.Errno]api.Expr{api.ErrKind: kind, api.ErrForm: form, api.ErrRange: letter}
	for want, first := range invalid {
		for _, second := range invalid {
			checkError(t, want, seq(first, second))
			checkError(t, want, alt(star(first), second))
			checkError(t, want, alt(first, star(second)))
			checkError(t, want, seq(a, opt(seq(b, plus(first), second)), second))
			checkError(t, api.ErrForm, seq(first))
			checkError(t, api.ErrForm, alt(first))
			checkError(t, api.ErrForm, of(api.Plus, first, second))
			checkError(t, api.ErrForm, of(api.One, first))
			checkError(t, api.ErrForm, withType(star(first), 1))
			checkError(t, api.ErrForm, seq(first, seq()))
			checkError(t, api.ErrForm, alt(second, first, alt(a, b)))
			checkError(t, api.ErrKind, of(7, first))
		}
		// All of them come ahead of the size.
		checkError(t, want, seq(append(times(api.MaxExpr+1, a), first)...))
		checkError(t, want, within(api.MaxExpr+1, api.Star, first))
	}
}

// P7.1, P7.2: as long as a text may be, and longer.
func TestCheckSize(t *testing.T) {
	for _, x := range []struct {
		name  string
		build func(n int) api.Expr
		most  int
	}{
		{"letters", func(n int) api.Expr { return seq(times(n, a)...) }, 40},
		{"branches", func(n int) api.Expr { return alt(times(n, a)...) }, 20},
		{"empty branches", func(n int) api.Expr { return alt(times(n, seq())...) }, 41},
		{"stars", func(n int) api.Expr { return within(n, api.Star, a) }, 39},
		{"pluses", func(n int) api.Expr { return within(n, api.Plus, seq()) }, 38},
		{"a question mark", func(n int) api.Expr { return opt(seq(times(n, h)...)) }, 37},
		{"branches in a row", func(n int) api.Expr { return seq(times(n, alt(a, b))...) }, 8},
		{"a row in branches", func(n int) api.Expr { return alt(seq(times(n, a)...), b) }, 38},
		{"branches in a star", func(n int) api.Expr { return star(alt(times(n, star(a))...)) }, 12},
		{"empty branches in a row", func(n int) api.Expr { return seq(times(n, alt(seq(), seq()))...) }, 13},
		{"rows in stars", func(n int) api.Expr {
			x := a
			for range n {
				x = star(seq(a, x))
			}
			return x
		}, 9},
	} {
		t.Run(x.name, func(t *testing.T) {
			for n := 2; n <= x.most+3; n++ {
				want := api.OK
				if n > x.most {
					want = api.ErrSize
				}
				checkError(t, want, x.build(n))
			}
		})
	}
}

// P7.1: errors take no longer than it takes to look at the expression once.
func TestCheckVeryLarge(t *testing.T) {
	const many, deep = 1 << 20, 1 << 16
	deepSeq := a
	for range deep / 2 {
		deepSeq = star(seq(a, deepSeq))
	}
	check := func(want api.Errno, x api.Expr) {
		t.Helper()
		err := expr.Check(x)
		text, textErr := expr.Print(x)
		got, matchErr := expr.Match(x, []int{-1})
		if err != want || textErr != want || matchErr != want || text != "" || got {
			t.Errorf("errors %v, %v, %v, want %v", err, textErr, matchErr, want)
		}
	}
	for _, x := range []api.Expr{
		seq(times(many, a)...), alt(times(many, a)...), alt(times(many, seq())...), seq(times(many, star(alt(a, b)))...),
		within(deep, api.Star, a), within(deep, api.Opt, seq()), deepSeq,
	} {
		check(api.ErrSize, x)
	}
	check(api.ErrForm, of(api.Star, times(many, a)...))
	check(api.ErrForm, seq(append(times(many, a), seq())...))
	check(api.ErrRange, seq(append(times(many, a), one(8))...))
	check(api.ErrRange, within(deep, api.Star, one(-1)))
	check(api.ErrForm, within(deep, api.Seq, a))
	check(api.ErrKind, within(deep, api.Opt, of(0)))
}

// P7.1, P7.2: each kind with each type and each short list of parts of all kinds.
func TestEveryExpr(t *testing.T) {
	kinds := []int{-1, 0, api.One, api.Seq, api.Alt, api.Star, api.Plus, api.Opt, 7}
	types := []int{-1, 0, 7, 8}
	leaves := []api.Expr{a, h, one(8), one(-1), of(0), of(7), seq(), seq(a), seq(a, b), withType(seq(), 1), alt(), alt(a, b), alt(a, seq()), star(a), of(api.Star), plus(seq()), opt(alt(b, c))}
	for _, kind := range kinds {
		for _, letter := range types {
			every(leaves, 3, func(l []api.Expr) {
				checkExpected(t, withType(of(kind, l...), letter))
			})
		}
	}
	for _, outer := range kinds {
		for _, inner := range kinds {
			every(leaves, 2, func(l []api.Expr) {
				checkExpected(t, of(outer, of(inner, l...)))
				checkExpected(t, of(outer, a, of(inner, l...)))
				checkExpected(t, of(outer, of(inner, l...), one(8)))
			})
		}
	}
}

// P7.2
func TestPrint(t *testing.T) {
	for text, x := range map[string]api.Expr{
		"":           seq(),
		"a":          a,
		"h":          h,
		"ab":         seq(a, b),
		"abcba":      seq(a, b, c, b, a),
		"a|b":        alt(a, b),
		"a|a|a":      alt(a, a, a),
		"|":          alt(seq(), seq()),
		"|a||":       alt(seq(), a, seq(), seq()),
		"a*":         star(a),
		"a+":         plus(a),
		"a?":         opt(a),
		"a*+?":       opt(plus(star(a))),
		"a?+*":       star(plus(opt(a))),
		"a**":        star(star(a)),
		"ab|c":       alt(seq(a, b), c),
		"a|bc*":      alt(a, seq(b, star(c))),
		"a(b|c)":     seq(a, alt(b, c)),
		"(a|b)c":     seq(alt(a, b), c),
		"(a|b)(|c)":  seq(alt(a, b), alt(seq(), c)),
		"(a|b)*":     star(alt(a, b)),
		"(ab)+":      plus(seq(a, b)),
		"()?":        opt(seq()),
		"()*()+":     seq(star(seq()), plus(seq())),
		"(a|bc)?d":   seq(opt(alt(a, seq(b, c))), one(3)),
		"((a|b)c)*":  star(seq(alt(a, b), c)),
		"(a(b|c)|)+": plus(alt(seq(a, alt(b, c)), seq())),
		"a*|b*":      alt(star(a), star(b)),
		"(a*|b)*":    star(alt(star(a), b)),
		"(a|b)**":    star(star(alt(a, b))),
	} {
		checkText(t, text, x)
		checkParse(t, text, x)
	}
	for letter := range api.MaxTypes {
		checkText(t, "abcdefgh"[letter:letter+1], one(letter))
	}
}

// P7.2: each valid expression is read back as itself.
func TestEveryValidExpr(t *testing.T) {
	texts := map[string]bool{}
	for _, x := range valid(6, a, b) {
		text, err := expr.Print(x)
		if err != api.OK || texts[text] {
			t.Fatalf("Print(%s) = %q, %v, or another expression has the same text", shown(x), text, err)
		}
		texts[text] = true
		checkExpected(t, x)
	}
}

func TestParse(t *testing.T) {
	for text, want := range map[string]api.Expr{
		// Additional parentheses.
		"(a)":           a,
		"(((h)))":       h,
		"((a))((b))":    seq(a, b),
		"(ab)":          seq(a, b),
		"(a|b)":         alt(a, b),
		"(a*)":          star(a),
		"(a)*":          star(a),
		"((a)*)*":       star(star(a)),
		"((ab))*":       star(seq(a, b)),
		"((a|b))c":      seq(alt(a, b), c),
		"(a)|(b)":       alt(a, b),
		"(ab)|c":        alt(seq(a, b), c),
		"a|()":          alt(a, seq()),
		"()|()":         alt(seq(), seq()),
		"(())*":         star(seq()),
		"((()))":        seq(),
		"()":            seq(),
		"(a?)(b+)":      seq(opt(a), plus(b)),
		"((a|b)*|(cb))": alt(star(alt(a, b)), seq(c, b)),
		// A Seq in a Seq, and an Alt in an Alt.
		"a(bc)":            seq(a, b, c),
		"(ab)c":            seq(a, b, c),
		"(ab)(ca)":         seq(a, b, c, a),
		"a(b(ca))":         seq(a, b, c, a),
		"(((ab)c)a)":       seq(a, b, c, a),
		"a|(b|c)":          alt(a, b, c),
		"(a|b)|c":          alt(a, b, c),
		"((a|b)|(c|))|a":   alt(a, b, c, seq(), a),
		"(a|((b|c)))":      alt(a, b, c),
		"(a|b)(bc)":        seq(alt(a, b), b, c),
		"a(b(c|(a|b)))":    seq(a, b, alt(c, a, b)),
		"(|)|":             alt(seq(), seq(), seq()),
		"(a(bc))*":         star(seq(a, b, c)),
		"((a|b)|c)?a":      seq(opt(alt(a, b, c)), a),
		"a(bc)*":           seq(a, star(seq(b, c))),
		"(a|b)*|c":         alt(star(alt(a, b)), c),
		"(a(b|c))|(b(ac))": alt(seq(a, alt(b, c)), seq(b, a, c)),
		// Only one part is left.
		"a()":        a,
		"()a":        a,
		"()a()":      a,
		"()(a)(())":  a,
		"()()":       seq(),
		"(()())()":   seq(),
		"(a|b)()":    alt(a, b),
		"()(a*)":     star(a),
		"()a*":       star(a),
		"(a())*":     star(a),
		"(()())*":    star(seq()),
		"(a|b)()|c":  alt(a, b, c),
		"c|()(a|b)":  alt(c, a, b),
		"((a|b)())c": seq(alt(a, b), c),
		"a()b":       seq(a, b),
		"()a|()":     alt(a, seq()),
		"a()*":       seq(a, star(seq())),
		"()|a":       alt(seq(), a),
		"(()a)(()b)": seq(a, b),
	} {
		checkParse(t, text, want)
	}
}

func TestParseForm(t *testing.T) {
	for _, s := range []string{
		"(", ")", "a)", "(a", "(a))", "((a)", ")(", "a|b)", "(a|b", "())(", "a(", "|)", "(|",
		"*", "+", "?", "*a", "|*", "a|+", "(*)", "(?a)", "(a|*)", "+()", "a|b|?",
		"i", "A", "aH", "z", "`", "a b", " a", "a ", "a\n", "\x00", "1", ".", "[a]", "a{2}", "a-b", "a,b", "\\a", "é", "\xff", "a&b", "(?:a)", "^a$",
		strings.Repeat("(", 40), strings.Repeat(")", 40), strings.Repeat("a", 39) + "i", strings.Repeat("(", 20) + strings.Repeat(")", 19),
	} {
		checkNotParsed(t, api.ErrForm, s)
	}
}

// Each byte is a letter, or one of the others, or nothing.
func TestParseBytes(t *testing.T) {
	for i := range 256 {
		s := string([]byte{byte(i)})
		for _, text := range []string{s, "a" + s, s + "a", "(a" + s + ")", "a" + s + "b", "a|" + s, s + s} {
			checkExpectedParse(t, text)
		}
	}
}

func TestParseSize(t *testing.T) {
	checkParse(t, strings.Repeat("a", 40), seq(times(40, a)...))
	checkParse(t, strings.Repeat("(", 19)+"ab"+strings.Repeat(")", 19), seq(a, b))
	checkParse(t, "a"+strings.Repeat("+", 39), within(39, api.Plus, a))
	checkParse(t, strings.Repeat("|", 40), alt(times(41, seq())...))
	checkParse(t, strings.Repeat("()", 20), seq())
	checkParse(t, strings.Repeat("(a", 13)+strings.Repeat(")", 13)+"a", seq(times(14, a)...))
	checkParse(t, strings.Repeat("(a|", 10)+strings.Repeat(")", 10), alt(append(times(10, a), seq())...))
	// However little of a text is left in its expression.
	for _, s := range []string{
		strings.Repeat("a", 41), strings.Repeat("(", 20) + "a" + strings.Repeat(")", 20), "a" + strings.Repeat("()", 20), strings.Repeat("|", 41),
		strings.Repeat("(", 41), strings.Repeat("i", 41), strings.Repeat("*", 41), strings.Repeat(" ", 41), strings.Repeat("a", 1<<20), strings.Repeat("(", 1<<20),
	} {
		checkNotParsed(t, api.ErrSize, s)
	}
}

func TestParseEvery(t *testing.T) {
	pieces := []string{"a", "h", "(", ")", "|", "*", "+", "?", "i"}
	every(pieces, 5, func(l []string) { checkExpectedParse(t, strings.Join(l, "")) })
	every([]string{"a", "b", "(", ")", "|", "?"}, 7, func(l []string) { checkExpectedParse(t, strings.Join(l, "")) })
	// Longer ones of what fits together more often.
	every([]string{"a", "(a|b)", "()", "(ab)", "((b|))", "*", "|"}, 5, func(l []string) { checkExpectedParse(t, strings.Join(l, "")) })
	// Parentheses alone.
	every([]string{"(", ")", "(a", "b)"}, 8, func(l []string) { checkExpectedParse(t, strings.Join(l, "")) })
}

// P7.3
func TestMatch(t *testing.T) {
	for _, row := range []struct {
		text      string
		yes, none string
	}{
		{"", ",", "a b aa"},
		{"a", "a", ", b aa ab h"},
		{"h", "h", ", a g hh"},
		{"ab", "ab", ", a b ba abb aab aba"},
		{"a|b", "a b", ", ab ba c aa"},
		{"a|", "a ,", "b aa"},
		{"|", ",", "a"},
		{"a*", ", a aa aaaa", "b ab ba aab"},
		{"a+", "a aa aaaa", ", b ab ba"},
		{"a?", ", a", "aa b ab"},
		{"a*b", "b ab aab", ", a ba aba bb"},
		{"a*a", "a aa aaa", ", b ab"},
		{"a*a*a*", ", a aaaa", "b"},
		{"a?a?a?aa", "aa aaa aaaaa", ", a aaaaaa"},
		{"(a|b)*", ", a b ab ba bbab", "c abc cab"},
		{"(ab)*", ", ab abab ababab", "a b aba ba abb"},
		{"(ab)+", "ab abab", ", a aba"},
		{"(ab)?", ", ab", "a b abab"},
		{"(ab|a)(bc|c)", "abbc abc ac", ", ab bc abb acc"},
		{"(a|ab)*", ", a ab aab abab aba", "b abb ba"},
		{"(a*b*)*", ", a b ba abba", "c abc"},
		{"(a+b+)+", "ab aab abb abab", ", a b ba aba"},
		{"(a?b)+c", "abc bc bbabc", ", c ac abac aabc"},
		{"()*", ",", "a"},
		{"()+", ",", "a"},
		{"()?a", "a", ", aa"},
		{"(a?)+", ", a aaa", "b"},
		{"(a|)+", ", a aaa", "b"},
		{"(a*)?b", "b ab aab", ", a"},
		{"(aa|aaa)*", ", aa aaa aaaa aaaaa aaaaaaa", "a b aab"},
		{"(aaa)*|(aaaaa)*", ", aaa aaaaa aaaaaa aaaaaaaaaa", "a aa aaaa aaaaaaa aaaaaaaa"},
		{"(a|b)*a(a|b)(a|b)", "aaa abb baab bbabb", ", a ab bab abab"},
		{"(b|c)+d?", "b c bc cbd", ", d bdd dd bdb"},
	} {
		x, err := expr.Parse(row.text)
		if err != api.OK {
			t.Fatalf("Parse(%q): %v", row.text, err)
		}
		for _, word := range strings.Fields(row.yes) {
			checkMatch(t, true, x, strings.Trim(word, ","))
		}
		for _, word := range strings.Fields(row.none) {
			checkMatch(t, false, x, strings.Trim(word, ","))
		}
	}
}

// P7.3: the words that are meant, and no others.
func TestMatchEvery(t *testing.T) {
	const most = 4
	var all []string
	every([]string{"a", "b", "h"}, most, func(l []string) { all = append(all, strings.Join(l, "")) })
	for _, x := range valid(5, a, b) {
		meant := words(x, most)
		for _, word := range all {
			checkMatch(t, meant[word], x, word)
		}
	}
}

// P7.3: larger expressions and longer words, against the library's.
func TestMatchRandom(t *testing.T) {
	r := rand.New(rand.NewSource(7))
	matched := 0
	for range 20000 {
		x := random(r, 2+r.Intn(24))
		checkExpected(t, x)
		if expectedError(x) != api.OK {
			continue
		}
		p := pattern(x)
		for range 10 {
			word := make([]byte, r.Intn(api.MaxWord+1)>>r.Intn(4))
			for i := range word {
				word[i] = "aaabbc"[r.Intn(6)]
			}
			want := p.Match(word)
			checkMatch(t, want, x, string(word))
			if want {
				matched++
			}
		}
	}
	if matched < 10000 {
		t.Errorf("only %d words were matched", matched)
	}
}

// P7.3: words as long as they may be, and expressions for which a search that tries one way after the other takes forever.
func TestMatchHard(t *testing.T) {
	long := strings.Repeat("a", api.MaxWord)
	for _, text := range []string{
		"a" + strings.Repeat("*", 39), "a" + strings.Repeat("+", 39), "a" + strings.Repeat("+*", 19), "a" + strings.Repeat("?*", 19),
		"((((((((a*)*a*)*a*)*a*)*a*)*a*)*a*)*a*)*", "(((((((((a|)*|a)*|a)*|a)*|a)*|a)*|a)*))*", "((((a*a*)*(a*a*)*)*((a*a*)*(a*a*)*)*)*)*",
		strings.Repeat("a*", 20), strings.Repeat("(a|)+", 8), strings.Repeat("a+", 20), "(a|a)*(a|aa)*(a|aa|aaa)*(a|aa|aa|a)*", "(a?)*(a?a?)*(aa?|aa)+(a+a*)+(a*)+",
	} {
		x, err := expr.Parse(text)
		if err != api.OK {
			t.Fatalf("Parse(%q): %v", text, err)
		}
		checkMatch(t, true, x, long)
		checkMatch(t, false, x, long[1:]+"b")
		checkMatch(t, false, x, "b"+long[1:])
		checkMatch(t, false, x, long[:20]+"b"+long[:19])
		checkMatch(t, pattern(x).MatchString(""), x, "")
	}
	checkMatch(t, true, seq(times(40, a)...), long)
	checkMatch(t, false, seq(times(40, a)...), long[1:])
	checkMatch(t, false, seq(times(39, a)...), long)
	checkMatch(t, true, star(seq(times(8, a)...)), long)
	checkMatch(t, false, star(seq(times(9, a)...)), long)
	checkMatch(t, true, star(seq(times(20, a)...)), long)
	checkMatch(t, true, seq(star(a), h), long[1:]+"h")
}

// P7.3
func TestMatchErrors(t *testing.T) {
	long := slices.Repeat([]int{0}, api.MaxWord+1)
	badLong := slices.Clone(long)
	badLong[0] = 8
	badEnd := slices.Clone(long[1:])
	badEnd[api.MaxWord-1] = -1
	for _, row := range []struct {
		x    api.Expr
		word []int
		want api.Errno
	}{
		{star(a), long[1:], api.OK},
		{star(a), long, api.ErrSize},
		{star(a), badLong, api.ErrSize},
		{a, long, api.ErrSize},
		{a, make([]int, 1<<20), api.ErrSize},
		{star(a), badEnd, api.ErrRange},
		{a, []int{8}, api.ErrRange},
		{a, []int{-1}, api.ErrRange},
		{a, []int{0, 8}, api.ErrRange},
		{a, []int{math.MinInt}, api.ErrRange},
		{a, []int{math.MaxInt}, api.ErrRange},
		{a, []int{1 << 32}, api.ErrRange},
		{seq(), []int{8}, api.ErrRange},
		{api.Expr{}, nil, api.ErrKind},
		{api.Expr{}, long, api.ErrKind},
		{seq(a), badLong, api.ErrForm},
		{one(8), []int{8}, api.ErrRange},
		{one(8), long, api.ErrRange},
		{seq(times(41, a)...), []int{8}, api.ErrSize},
		{seq(times(41, a)...), long, api.ErrSize},
	} {
		got, err := expr.Match(row.x, row.word)
		if err != row.want || got && err != api.OK {
			t.Errorf("Match(%s, %s) = %v, %v, want %v", shown(row.x), shown(row.word), got, err, row.want)
		}
	}
	if got, err := expr.Match(seq(), nil); !got || err != api.OK {
		t.Errorf("Match(%s, nil) = %v, %v", shown(seq()), got, err)
	}
	if got, err := expr.Match(seq(), []int{}); !got || err != api.OK {
		t.Errorf("Match(%s, []) = %v, %v", shown(seq()), got, err)
	}
}

// allLists calls f with each list of the expression.
func allLists(x api.Expr, f func(parts []api.Expr)) {
	f(x.Parts)
	for _, part := range x.Parts {
		allLists(part, f)
	}
}

// spare is what stands behind the end of each list.
func spare(x api.Expr) []api.Expr {
	var all []api.Expr
	allLists(x, func(parts []api.Expr) {
		all = append(all, slices.Clone(parts[len(parts):cap(parts)])...)
	})
	return all
}

func TestLeavesItsLists(t *testing.T) {
	roomy := func(kind int, parts ...api.Expr) api.Expr {
		l := append(slices.Clone(parts), one(99), one(98))
		return of(kind, l[:len(parts)]...)
	}
	for _, x := range []api.Expr{
		roomy(api.Seq, a, roomy(api.Alt, a, roomy(api.Seq, b, c), roomy(api.Seq)), roomy(api.Star, roomy(api.Seq, a, b))),
		roomy(api.Plus, roomy(api.Opt, roomy(api.One))), roomy(api.Seq, a, roomy(api.Seq, a)), roomy(api.Alt, times(50, a)...),
	} {
		wantTree, wantSpare := clone(x), spare(x)
		word := []int{0, 1, 2, 0, 99, 98}
		expr.Check(x)
		expr.Print(x)
		expr.Match(x, word[:4])
		expr.Match(x, word[:5])
		if !same(x, wantTree) || !slices.EqualFunc(spare(x), wantSpare, same) {
			t.Errorf("the expression became %s, want %s", shown(x), shown(wantTree))
		}
		if !slices.Equal(word, []int{0, 1, 2, 0, 99, 98}) {
			t.Errorf("the word became %v", word)
		}
	}
}

func TestParseSharesNothing(t *testing.T) {
	for _, text := range []string{
		"a(bc)*(a|b|c|a)", "a(bc)(a(bc))((ab)(ab))", "a|(b|c)|((a|b)|(c|a))|ab(c|b)", "()a*()", "(a(bc)a)*|(a|b)(c(ab))+", "(((ab)c)a)((b|c)|a)a*?+", "(a*b+)()(a?b?)(c)", "",
	} {
		got, err := expr.Parse(text)
		other, _ := expr.Parse(text)
		want := clone(got)
		if err != api.OK {
			t.Errorf("Parse(%q) = %v", text, err)
		}
		allLists(got, func(parts []api.Expr) {
			for i := range parts[len(parts):cap(parts)] {
				parts[len(parts):cap(parts)][i] = one(99)
			}
		})
		if !same(got, want) {
			t.Errorf("the result became %s, want %s", shown(got), shown(want))
		}
		allLists(got, func(parts []api.Expr) {
			for i := range parts {
				if parts[i].Type == 99 {
					t.Fatalf("parts are shared in %s", shown(got))
				}
				parts[i].Type = 99
			}
		})
		if !same(other, want) {
			t.Errorf("another result became %s, want %s", shown(other), shown(want))
		}
	}
}

func FuzzParse(f *testing.F) {
	f.Add("a(b|c)*d?", "abcbd")
	f.Add("(a())*|((b|c)|a)(ab)()+", "bab")
	f.Add("a|*", "")
	f.Fuzz(func(t *testing.T, s, word string) {
		checkExpectedParse(t, s)
		x, err := expr.Parse(s)
		for i := range len(word) {
			if word[i] < 'a' || word[i] > 'h' {
				return
			}
		}
		if err == api.OK && len(word) <= api.MaxWord {
			checkMatch(t, pattern(x).MatchString(word), x, word)
		}
	})
}
