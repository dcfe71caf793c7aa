// Package utf: see doc/01-utf.md.
package utf

import (
	"strings"
	"unicode/utf8"

	"bobbinet/api"
)

const (
	firstSurrogate = 0xd800
	lastSurrogate  = 0xdfff
	lastCodePoint  = 0x10ffff
)

// Runes returns the code points of s; a byte that begins no encoding counts as 65533.
func Runes(s string) []int {
	points := make([]int, 0, len(s))
	// Ranging over a string decodes exactly one byte as 65533 where no encoding begins.
	for _, r := range s {
		points = append(points, int(r))
	}
	return points
}

// Text returns the encoding of the code points l.
func Text(l []int) (string, api.Errno) {
	// The whole list is checked first: ErrRange precedes ErrSize wherever the element is.
	for _, point := range l {
		if !isCodePoint(point) {
			return "", api.ErrRange
		}
	}
	var text []byte
	for _, point := range l {
		text = utf8.AppendRune(text, rune(point))
		if len(text) > api.MaxText {
			return "", api.ErrSize
		}
	}
	return string(text), api.OK
}

// Clean returns s in valid UTF-8, with line feeds as its only line ends and without the code point 0.
func Clean(s string) string {
	var b strings.Builder
	for i, r := range s {
		switch {
		case r == 0:
			b.WriteRune(utf8.RuneError)
		case r == '\r' && strings.HasPrefix(s[i+1:], "\n"):
			// The line feed that follows stands for both.
		case r == '\r':
			b.WriteByte('\n')
		default:
			b.WriteRune(r)
		}
	}
	return b.String()
}

// isCodePoint works on an int, because a conversion to rune would cut off high bits.
func isCodePoint(n int) bool {
	if n >= firstSurrogate && n <= lastSurrogate {
		return false
	}
	return n >= 0 && n <= lastCodePoint
}
