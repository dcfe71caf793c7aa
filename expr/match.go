package expr

import (
	"math/bits"

	"bobbinet/api"
)

// Match reports whether x matches the word.
func Match(x api.Expr, word []int) (bool, api.Errno) {
	if err := Check(x); err != api.OK {
		return false, err
	}
	if len(word) > api.MaxWord {
		return false, api.ErrSize
	}
	for _, letter := range word {
		if !isLetter(letter) {
			return false, api.ErrRange
		}
	}
	return spansOf(x, word)[0]&at(len(word)) != 0, api.OK
}

// places is a set of places in a word, of which there is one more than letters: bit i stands for the place ahead of letter i.
type places uint64

func at(i int) places {
	return 1 << i
}

// spans are the pieces of a word that an expression matches: element i has the places where those end that begin at i.
type spans [api.MaxWord + 1]places

// spansOf looks at each expression once, so that stars of stars take no longer than others.
func spansOf(x api.Expr, word []int) spans {
	switch x.Kind {
	case api.One:
		return letterSpans(x.Type, word)
	case api.Seq:
		all := emptySpans()
		for _, part := range x.Parts {
			all = all.then(spansOf(part, word))
		}
		return all
	case api.Alt:
		var all spans
		for _, part := range x.Parts {
			all = all.or(spansOf(part, word))
		}
		return all
	}
	part := spansOf(x.Parts[0], word)
	switch x.Kind {
	case api.Opt:
		return emptySpans().or(part)
	case api.Plus:
		return part.then(part.repeated())
	}
	return part.repeated()
}

func emptySpans() spans {
	var all spans
	for i := range all {
		all[i] = at(i)
	}
	return all
}

func letterSpans(letter int, word []int) spans {
	var all spans
	for i, l := range word {
		if l == letter {
			all[i] = at(i + 1)
		}
	}
	return all
}

func (s spans) or(other spans) spans {
	for i := range s {
		s[i] |= other[i]
	}
	return s
}

// then has a piece of s followed by one of next.
func (s spans) then(next spans) spans {
	for i := range s {
		s[i] = next.ends(s[i])
	}
	return s
}

// repeated has any number of pieces of s, one behind the other.
func (s spans) repeated() spans {
	var all spans
	// The last places come first: a piece that is not empty leads to one whose ends are known.
	for i := len(s) - 1; i >= 0; i-- {
		all[i] = at(i) | all.ends(s[i])
	}
	return all
}

// ends returns where the pieces end that begin at one of the places.
func (s spans) ends(begins places) places {
	var all places
	for begins != 0 {
		i := bits.TrailingZeros64(uint64(begins))
		begins &^= at(i)
		all |= s[i]
	}
	return all
}
