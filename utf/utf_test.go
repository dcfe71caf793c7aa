package utf_test

import (
	"math"
	"slices"
	"strings"
	"testing"

	"bobbinet/api"
	"bobbinet/utf"
)

// valid says which numbers are code points, as the chapter defines them.
func valid(n int) bool {
	return 0 <= n && n < 0xd800 || 0xdfff < n && n <= 0x10ffff
}

// encode is P1.1 word for word, without the library.
func encode(n int) string {
	low := func(shift int) byte { return byte(128 + n>>shift&63) }
	switch {
	case n < 128:
		return string([]byte{byte(n)})
	case n < 2048:
		return string([]byte{byte(192 + n>>6), low(0)})
	case n < 65536:
		return string([]byte{byte(224 + n>>12), low(6), low(0)})
	}
	return string([]byte{byte(240 + n>>18), low(12), low(6), low(0)})
}

// first is P1.2 word for word: the code point whose encoding s begins with, and its length.
func first(s string) (point, size int) {
	for size := 1; size <= 4 && size <= len(s); size++ {
		n := int(s[0])
		if size > 1 {
			n -= []int{192, 224, 240}[size-2]
		}
		for _, c := range []byte(s[1:size]) {
			n = n*64 + int(c) - 128
		}
		if valid(n) && encode(n) == s[:size] {
			return n, size
		}
	}
	return 65533, 1
}

func decode(s string) []int {
	var points []int
	for s != "" {
		point, size := first(s)
		points = append(points, point)
		s = s[size:]
	}
	return points
}

// repeat returns n times the number point.
func repeat(point, n int) []int {
	return slices.Repeat([]int{point}, n)
}

func checkText(t *testing.T, l []int, want string, wantErr api.Errno) {
	t.Helper()
	if got, err := utf.Text(l); got != want || err != wantErr {
		t.Errorf("Text of %d elements %x = %q, %d, want %q, %d", len(l), l[:min(len(l), 4)], got, err, want, wantErr)
	}
}

func checkRunes(t *testing.T, s string, want []int) {
	t.Helper()
	if got := utf.Runes(s); !slices.Equal(got, want) {
		t.Errorf("Runes(%q) = %x, want %x", s, got, want)
	}
}

func checkClean(t *testing.T, s, want string) {
	t.Helper()
	if got := utf.Clean(s); got != want {
		t.Errorf("Clean(%q) = %q, want %q", s, got, want)
	}
}

// P1.1: the bounds of each length, written out.
func TestTextBounds(t *testing.T) {
	for _, c := range []struct {
		point int
		want  string
	}{
		{0, "\x00"},
		{1, "\x01"},
		{97, "a"},
		{127, "\x7f"},
		{128, "\xc2\x80"},
		{233, "\xc3\xa9"},
		{2047, "\xdf\xbf"},
		{2048, "\xe0\xa0\x80"},
		{8364, "\xe2\x82\xac"},
		{0xd7ff, "\xed\x9f\xbf"},
		{0xe000, "\xee\x80\x80"},
		{65533, "\xef\xbf\xbd"},
		{65535, "\xef\xbf\xbf"},
		{65536, "\xf0\x90\x80\x80"},
		{128512, "\xf0\x9f\x98\x80"},
		{0x10ffff, "\xf4\x8f\xbf\xbf"},
	} {
		checkText(t, []int{c.point}, c.want, api.OK)
		checkRunes(t, c.want, []int{c.point})
	}
	checkText(t, nil, "", api.OK)
	checkText(t, []int{}, "", api.OK)
	checkText(t, []int{97, 233, 8364, 128512, 0, 98}, "aé€😀\x00b", api.OK)
}

// P1.1 and P1.2: every number near or within the range of code points.
func TestEveryCodePoint(t *testing.T) {
	for n := -300; n <= 0x110000+300; n++ {
		if !valid(n) {
			checkText(t, []int{n}, "", api.ErrRange)
			continue
		}
		checkText(t, []int{n}, encode(n), api.OK)
		checkRunes(t, encode(n), []int{n})
	}
}

// P1.1: numbers that are no code points, also those whose low bits are one.
func TestTextRange(t *testing.T) {
	for _, n := range []int{
		-1, 0xd800, 0xdabc, 0xdfff, 0x110000, math.MaxInt32, math.MinInt32,
		1 << 32, 1<<32 + 97, -1<<32 + 97, math.MaxInt64, math.MinInt64, math.MinInt64 + 97,
	} {
		checkText(t, []int{n}, "", api.ErrRange)
		checkText(t, []int{97, n, 98}, "", api.ErrRange)
		checkText(t, []int{97, 98, n}, "", api.ErrRange)
	}
}

// P1.1: the size counts bytes of the result, and MaxText itself is allowed.
func TestTextSize(t *testing.T) {
	for _, point := range []int{0, 97, 233, 8364, 128512} {
		size := len(encode(point))
		most := api.MaxText / size
		checkText(t, repeat(point, most), strings.Repeat(encode(point), most), api.OK)
		checkText(t, repeat(point, most+1), "", api.ErrSize)
		checkText(t, append(repeat(point, most), 97), "", api.ErrSize)
		checkText(t, append(repeat(97, api.MaxText-size), point), strings.Repeat("a", api.MaxText-size)+encode(point), api.OK)
		checkText(t, append(repeat(97, api.MaxText-size+1), point), "", api.ErrSize)
	}
	checkText(t, repeat(97, 100000), "", api.ErrSize)
}

// P1.1: ErrRange is checked before ErrSize, wherever the element stands.
func TestTextErrorOrder(t *testing.T) {
	for _, at := range []int{0, 1, api.MaxText - 1, api.MaxText, api.MaxText + 1, 2 * api.MaxText} {
		l := repeat(97, 2*api.MaxText+1)
		l[at] = 0xd800
		checkText(t, l, "", api.ErrRange)
	}
}

// The list that is passed stays as it is, with its spare capacity.
func TestTextLeavesItsList(t *testing.T) {
	all := []int{97, 233, -1, 0xd800}
	for n := range len(all) + 1 {
		utf.Text(all[:n])
		if !slices.Equal(all, []int{97, 233, -1, 0xd800}) {
			t.Fatalf("the list became %v", all)
		}
	}
}

// P1.2: bytes that are no encoding of a code point count one by one.
func TestRunesInvalid(t *testing.T) {
	const bad = 65533
	for _, c := range []struct {
		s    string
		want []int
	}{
		{"", nil},
		{"a\xff", []int{97, bad}},
		{"\x80", []int{bad}},
		{"\xbfa", []int{bad, 97}},
		{"\xc3", []int{bad}},
		{"\xc3a", []int{bad, 97}},
		{"\xc3\xc3\xa9", []int{bad, 233}},
		{"\xc3\xa9\xa9", []int{233, bad}},
		{"\xe2\x82", []int{bad, bad}},
		{"\xe2\x82a", []int{bad, bad, 97}},
		{"\xe2\xe2\x82\xac", []int{bad, 8364}},
		{"\xf0\x9f\x98", []int{bad, bad, bad}},
		{"\xf0\x9f\x98\xc3\xa9", []int{bad, bad, bad, 233}},
		{"\xc0\x80", []int{bad, bad}},
		{"\xc1\xbf", []int{bad, bad}},
		{"\xe0\x80\x80", []int{bad, bad, bad}},
		{"\xe0\x9f\xbf", []int{bad, bad, bad}},
		{"\xf0\x80\x80\x80", []int{bad, bad, bad, bad}},
		{"\xf0\x8f\xbf\xbf", []int{bad, bad, bad, bad}},
		{"\xed\xa0\x80", []int{bad, bad, bad}},
		{"\xed\xbf\xbf", []int{bad, bad, bad}},
		{"\xed\xa0\xbd\xed\xb8\x80", []int{bad, bad, bad, bad, bad, bad}},
		{"\xf4\x90\x80\x80", []int{bad, bad, bad, bad}},
		{"\xf5\x80\x80\x80", []int{bad, bad, bad, bad}},
		{"\xf8\x88\x80\x80\x80", []int{bad, bad, bad, bad, bad}},
		{"\xef\xbf\xbd\xff", []int{bad, bad}},
		{"\x00\r\n", []int{0, 13, 10}},
	} {
		checkRunes(t, c.s, c.want)
	}
}

// P1.2: every string of up to four bytes at the bounds of the bytes' roles.
func TestRunesAllBounds(t *testing.T) {
	const bytes = "\x00a\x7f\x80\x8f\x90\x9f\xa0\xbf\xc0\xc1\xc2\xdf\xe0\xe1\xec\xed\xee\xef\xf0\xf1\xf3\xf4\xf5\xff"
	var extend func(s string)
	extend = func(s string) {
		checkRunes(t, s, decode(s))
		if len(s) == 4 {
			return
		}
		for i := range len(bytes) {
			extend(s + bytes[i:i+1])
		}
	}
	extend("")
}

// P1.2: Runes has no limit, and its results share no memory.
func TestRunesLong(t *testing.T) {
	s := strings.Repeat("aé\xff", 5000)
	checkRunes(t, s, slices.Repeat([]int{97, 233, 65533}, 5000))
	one, other := utf.Runes(s), utf.Runes(s)
	one[0] = 98
	if other[0] != 97 {
		t.Error("two results share memory")
	}
}

// P1.2, section of Clean.
func TestClean(t *testing.T) {
	for _, c := range []struct{ s, want string }{
		{"", ""},
		{"abc", "abc"},
		{"aé€😀", "aé€😀"},
		{"a\r\nb", "a\nb"},
		{"a\rb", "a\nb"},
		{"a\nb", "a\nb"},
		{"\r", "\n"},
		{"\r\n", "\n"},
		{"\r\r", "\n\n"},
		{"\r\r\n", "\n\n"},
		{"\r\n\r\n", "\n\n"},
		{"\r\n\r", "\n\n"},
		{"\n\r", "\n\n"},
		{"\n\r\n", "\n\n"},
		{"\n\n", "\n\n"},
		{"\x00", "\ufffd"},
		{"a\x00\x00b", "a\ufffd\ufffdb"},
		{"\r\x00\n", "\n\ufffd\n"},
		{"\x00\r\n\x00", "\ufffd\n\ufffd"},
		{"\r\xff\n", "\n\ufffd\n"},
		{"\xff", "\ufffd"},
		{"\ufffd", "\ufffd"},
		{"\xe2\x82", "\ufffd\ufffd"},
		{"\xe2\r\n", "\ufffd\n"},
		{"\xe2\r", "\ufffd\n"},
		{"é\r\né\ré", "é\né\né"},
		{"\xc0\x80", "\ufffd\ufffd"},
		{"\xed\xa0\x80", "\ufffd\ufffd\ufffd"},
		{"\xc0\x8d\x0a", "\ufffd\ufffd\n"},
		{"\t\v\f\x01\x7f\u0085\u2028", "\t\v\f\x01\x7f\u0085\u2028"},
	} {
		checkClean(t, c.s, c.want)
	}
	checkClean(t, strings.Repeat("a\r\n\x00", 5000), strings.Repeat("a\n\ufffd", 5000))
}

// cleaned is the section of Clean word for word, from the code points on.
func cleaned(points []int) string {
	var b strings.Builder
	for i, point := range points {
		switch {
		case point == 13 && i+1 < len(points) && points[i+1] == 10:
		case point == 13:
			b.WriteString(encode(10))
		case point == 0:
			b.WriteString(encode(65533))
		default:
			b.WriteString(encode(point))
		}
	}
	return b.String()
}

// Clean on every string of up to five of the bytes that matter to it; cleaning twice changes nothing more.
func TestCleanAll(t *testing.T) {
	const bytes = "\x00\r\na\xc3\xa9\xe2"
	var extend func(s string)
	extend = func(s string) {
		checkClean(t, s, cleaned(decode(s)))
		checkClean(t, utf.Clean(s), utf.Clean(s))
		if len(s) == 5 {
			return
		}
		for i := range len(bytes) {
			extend(s + bytes[i:i+1])
		}
	}
	extend("")
}

func FuzzCleanAndRunes(f *testing.F) {
	f.Add("a\r\nb\rc\x00\xff")
	f.Fuzz(func(t *testing.T, s string) {
		checkRunes(t, s, decode(s))
		checkClean(t, s, cleaned(decode(s)))
	})
}
