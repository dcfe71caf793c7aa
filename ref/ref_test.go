package ref_test

import (
	"fmt"
	"regexp"
	"strconv"
	"strings"
	"testing"
	"unicode/utf8"

	"bobbinet/ref"
)

func checkEscape(t *testing.T, s string, quote bool, want string) {
	t.Helper()
	if got := ref.Escape(s, quote); got != want {
		t.Errorf("Escape(%q, %v) = %q, want %q", s, quote, got, want)
	}
}

func checkUnescape(t *testing.T, s, want string) {
	t.Helper()
	if got := ref.Unescape(s); got != want {
		t.Errorf("Unescape(%q) = %q, want %q", s, got, want)
	}
}

// pattern is the list of references in P2.2, word for word.
var pattern = regexp.MustCompile(`&(?:(amp|lt|gt|quot|nbsp|copy)|#([0-9]{1,7})|#[xX]([0-9a-fA-F]{1,6}));`)

// unescaped is P2.2 by means of the pattern.
func unescaped(s string) string {
	return pattern.ReplaceAllStringFunc(s, func(reference string) string {
		parts := pattern.FindStringSubmatch(reference)
		if parts[1] != "" {
			return map[string]string{"amp": "&", "lt": "<", "gt": ">", "quot": "\"", "nbsp": "\u00a0", "copy": "\u00a9"}[parts[1]]
		}
		n, _ := strconv.ParseInt(parts[2]+parts[3], map[bool]int{true: 10, false: 16}[parts[3] == ""], 64)
		if n == 0 || n > 0x10ffff || 0xd800 <= n && n <= 0xdfff {
			n = 65533
		}
		return string(rune(n))
	})
}

// every calls f with each text of up to most of the pieces.
func every(pieces []string, most int, f func(s string)) {
	var extend func(s string, left int)
	extend = func(s string, left int) {
		f(s)
		if left == 0 {
			return
		}
		for _, piece := range pieces {
			extend(s+piece, left-1)
		}
	}
	extend("", most)
}

// P2.1
func TestEscape(t *testing.T) {
	for _, c := range []struct {
		s     string
		plain string
		quote string
	}{
		{"", "", ""},
		{"abc", "abc", "abc"},
		{"a<b", "a&lt;b", "a&lt;b"},
		{"&", "&amp;", "&amp;"},
		{"<", "&lt;", "&lt;"},
		{">", "&gt;", "&gt;"},
		{"\"", "\"", "&quot;"},
		{"'", "'", "'"},
		{"&amp;", "&amp;amp;", "&amp;amp;"},
		{"&&<<>>\"\"", "&amp;&amp;&lt;&lt;&gt;&gt;\"\"", "&amp;&amp;&lt;&lt;&gt;&gt;&quot;&quot;"},
		{"<p class=\"a\">x & y</p>", "&lt;p class=\"a\"&gt;x &amp; y&lt;/p&gt;", "&lt;p class=&quot;a&quot;&gt;x &amp; y&lt;/p&gt;"},
		{"\u00a0\u00a9é€😀", "\u00a0\u00a9é€😀", "\u00a0\u00a9é€😀"},
		{"\x00\t\n\r=/;#`", "\x00\t\n\r=/;#`", "\x00\t\n\r=/;#`"},
		{"\xff<\xe2\x82>\x80&\xc3", "\xff&lt;\xe2\x82&gt;\x80&amp;\xc3", "\xff&lt;\xe2\x82&gt;\x80&amp;\xc3"},
	} {
		checkEscape(t, c.s, false, c.plain)
		checkEscape(t, c.s, true, c.quote)
	}
}

// P2.1: every single byte.
func TestEscapeBytes(t *testing.T) {
	replaced := map[string]string{"&": "&amp;", "<": "&lt;", ">": "&gt;"}
	for c := range 256 {
		s := string([]byte{byte(c)})
		want := s
		if reference, ok := replaced[s]; ok {
			want = reference
		}
		checkEscape(t, s, false, want)
		if s == "\"" {
			want = "&quot;"
		}
		checkEscape(t, s, true, want)
		checkEscape(t, "x"+s+"y", true, "x"+want+"y")
	}
}

// P2.1 has no limit on the length.
func TestEscapeLong(t *testing.T) {
	checkEscape(t, strings.Repeat("<\"&", 10000), true, strings.Repeat("&lt;&quot;&amp;", 10000))
	checkEscape(t, strings.Repeat("<\"&", 10000), false, strings.Repeat("&lt;\"&amp;", 10000))
}

// P2.2: the references by name.
func TestUnescapeNames(t *testing.T) {
	for _, c := range []struct{ s, want string }{
		{"", ""},
		{"abc", "abc"},
		{"&amp;", "&"},
		{"&lt;", "<"},
		{"&gt;", ">"},
		{"&quot;", "\""},
		{"&nbsp;", "\xc2\xa0"},
		{"&copy;", "\xc2\xa9"},
		{"a&lt;b&gt;c", "a<b>c"},
		{"&lt;&lt;&copy;&copy;", "<<©©"},
		// No such names, or not in this case.
		{"&apos;", "&apos;"},
		{"&zz;", "&zz;"},
		{"&LT;", "&LT;"},
		{"&Amp;", "&Amp;"},
		{"&ltx;", "&ltx;"},
		{"&xlt;", "&xlt;"},
		{"& lt;", "& lt;"},
		{"&lt ;", "&lt ;"},
		{"&;", "&;"},
		// No semicolon, or not at once.
		{"&", "&"},
		{"&lt", "&lt"},
		{"&amp", "&amp"},
		{"&amp&lt;", "&amp<"},
		{"&lt&gt;", "&lt>"},
		{"&lt,;", "&lt,;"},
		// What was replaced is not read again.
		{"&amp;lt;", "&lt;"},
		{"&amp;amp;lt;", "&amp;lt;"},
		{"&amp;#65;", "&#65;"},
		{"&#38;lt;", "&lt;"},
		{"&#x26;#65;", "&#65;"},
		{"&l&amp;t;", "&l&t;"},
		// An & that begins none is passed over alone.
		{"&&lt;", "&<"},
		{"&&&amp;;", "&&&;"},
		{"&#&lt;", "&#<"},
		{"&#x&lt;", "&#x<"},
		{"&#1&lt;", "&#1<"},
	} {
		checkUnescape(t, c.s, c.want)
	}
}

// P2.2: the references by number.
func TestUnescapeNumbers(t *testing.T) {
	const bad = "\ufffd"
	for _, c := range []struct{ s, want string }{
		{"&#65;&lt;", "A<"},
		{"&#9;&#10;&#13;", "\t\n\r"},
		{"&#1;", "\x01"},
		{"&#127;&#128;&#159;", "\x7f\u0080\u009f"},
		{"&#2047;&#2048;", "\u07ff\u0800"},
		{"&#65535;&#65536;", "\uffff\U00010000"},
		{"&#1114111;", "\U0010ffff"},
		{"&#x41;&#X41;", "AA"},
		{"&#xe9;&#xE9;&#Xe9;&#XE9;", "éééé"},
		{"&#x10ffff;&#X10FFFF;&#x10fFfF;", "\U0010ffff\U0010ffff\U0010ffff"},
		{"&#xabc;&#xdef;&#xABC;&#xDEF;", "\u0abc\u0def\u0abc\u0def"},
		// Zeros in front count as digits.
		{"&#0000065;", "A"},
		{"&#00000065;", "&#00000065;"},
		{"&#x000041;", "A"},
		{"&#x0000041;", "&#x0000041;"},
		// No code points.
		{"&#0;", bad},
		{"&#0000000;", bad},
		{"&#x0;", bad},
		{"&#x000000;", bad},
		{"&#55295;&#55296;&#57343;&#57344;", "\ud7ff" + bad + bad + "\ue000"},
		{"&#xd7ff;&#xd800;&#xdfff;&#xe000;", "\ud7ff" + bad + bad + "\ue000"},
		{"&#1114112;", bad},
		{"&#9999999;", bad},
		{"&#x110000;", bad},
		{"&#xffffff;", bad},
		{"&#65533;&#xfffd;", bad + bad},
		// Too many digits, or none, or others.
		{"&#12345678;", "&#12345678;"},
		{"&#00000000;", "&#00000000;"},
		{"&#x1234567;", "&#x1234567;"},
		{"&#x0000000;", "&#x0000000;"},
		{"&#99999999999999999999;", "&#99999999999999999999;"},
		{"&#xffffffffffffffffffff;", "&#xffffffffffffffffffff;"},
		{"&#;", "&#;"},
		{"&#x;", "&#x;"},
		{"&#X;", "&#X;"},
		{"&#a;", "&#a;"},
		{"&#6a;", "&#6a;"},
		{"&#xg;", "&#xg;"},
		{"&#x4g;", "&#x4g;"},
		{"&#xx41;", "&#xx41;"},
		{"&#0x41;", "&#0x41;"},
		{"&#x0x41;", "&#x0x41;"},
		{"&#+65;", "&#+65;"},
		{"&#-65;", "&#-65;"},
		{"&#x+41;", "&#x+41;"},
		{"&#6_5;", "&#6_5;"},
		{"&#x4_1;", "&#x4_1;"},
		{"&#6.5;", "&#6.5;"},
		{"&#6e1;", "&#6e1;"},
		{"&# 65;", "&# 65;"},
		{"&#65 ;", "&#65 ;"},
		{"&#\u0666\u0665;", "&#\u0666\u0665;"},
		{"&##65;", "&##65;"},
		{"&x41;", "&x41;"},
		{"&65;", "&65;"},
		{"#65;", "#65;"},
		// No semicolon.
		{"&#65", "&#65"},
		{"&#x41", "&#x41"},
		{"&#", "&#"},
		{"&#x", "&#x"},
		{"&#1234567", "&#1234567"},
		{"&#65&#66;", "&#65B"},
	} {
		checkUnescape(t, c.s, c.want)
	}
}

// P2.2: every number at and around the code points, in each way to write it.
func TestUnescapeEveryNumber(t *testing.T) {
	for n := range 0x110000 + 300 {
		want := string(rune(n))
		if n == 0 {
			want = "\ufffd"
		}
		checkUnescape(t, "&#"+strconv.Itoa(n)+";", want)
		checkUnescape(t, "&#x"+strconv.FormatInt(int64(n), 16)+";", want)
	}
	for n := 0x110000; n <= 9999999; n += 997 {
		checkUnescape(t, fmt.Sprintf("&#%d;", n), "\ufffd")
		checkUnescape(t, fmt.Sprintf("&#X%06X;", n), "\ufffd")
	}
}

// P2.2: bytes that are no reference stay, also where they are no UTF-8.
func TestUnescapeBytes(t *testing.T) {
	for c := range 256 {
		s := string([]byte{byte(c)})
		checkUnescape(t, s, s)
		checkUnescape(t, s+"&lt;"+s, s+"<"+s)
		for _, text := range []string{"&" + s + "lt;", "&l" + s + "t;", "&lt" + s + ";", "&#" + s + ";", "&#x" + s + ";", "&#6" + s + ";"} {
			checkUnescape(t, text, unescaped(text))
		}
	}
	checkUnescape(t, "\xe2\x82&#65;\xac\x00\r\n", "\xe2\x82A\xac\x00\r\n")
}

// P2.2 against the pattern, on every text of up to six pieces.
func TestUnescapeAll(t *testing.T) {
	every([]string{"&", "#", "x", "X", ";", "0", "4", "f", "amp", "\xff"}, 6, func(s string) {
		checkUnescape(t, s, unescaped(s))
	})
	every([]string{"&#", "&#x", "00", "41", "d8", "1", ";", "&lt", "quot;"}, 6, func(s string) {
		checkUnescape(t, s, unescaped(s))
	})
}

// Unescape undoes Escape, with the quote and without it.
func TestUnescapeUndoesEscape(t *testing.T) {
	every([]string{"&", "<", ">", "\"", "lt;", "#65;", "\xc3"}, 5, func(s string) {
		checkUnescape(t, ref.Escape(s, false), s)
		checkUnescape(t, ref.Escape(s, true), s)
	})
}

// P2.2 has no limit on the length; many & that begin no reference take no time that grows with its square.
func TestUnescapeLong(t *testing.T) {
	checkUnescape(t, strings.Repeat("&#65;&lt;", 10000), strings.Repeat("A<", 10000))
	for _, piece := range []string{"&", "&#", "&#x", "&amp"} {
		long := strings.Repeat(piece, 1000000)
		checkUnescape(t, long, long)
	}
}

func FuzzUnescape(f *testing.F) {
	f.Add("&#65;&lt;&amp;&#x41;&zz;\xff")
	f.Fuzz(func(t *testing.T, s string) {
		checkUnescape(t, s, unescaped(s))
		checkUnescape(t, ref.Escape(s, true), s)
		if got := ref.Escape(s, true); utf8.ValidString(s) != utf8.ValidString(got) {
			t.Errorf("Escape(%q) = %q", s, got)
		}
	})
}
