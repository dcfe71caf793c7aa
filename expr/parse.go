package expr

import (
	"strings"

	"bobbinet/api"
)

// parser holds what is not read yet.
type parser struct {
	rest string
}

// Parse returns the expression with the text s, which may have more parentheses than Print writes.
func Parse(s string) (api.Expr, api.Errno) {
	if len(s) > api.MaxExpr {
		return api.Expr{}, api.ErrSize
	}
	p := parser{rest: s}
	x, ok := p.readAlt()
	if !ok || p.rest != "" {
		return api.Expr{}, api.ErrForm
	}
	return x, api.OK
}

// readAlt reads up to the parenthesis that closes it, or to the end.
func (p *parser) readAlt() (api.Expr, bool) {
	var parts []api.Expr
	for {
		part, ok := p.readSeq()
		if !ok {
			return api.Expr{}, false
		}
		parts = append(parts, part)
		if !p.skip("|") {
			return join(api.Alt, parts), true
		}
	}
}

// readSeq reads up to a bar, the parenthesis that closes it, or the end.
func (p *parser) readSeq() (api.Expr, bool) {
	var parts []api.Expr
	for p.rest != "" && p.rest[0] != '|' && p.rest[0] != ')' {
		part, ok := p.readPart()
		if !ok {
			return api.Expr{}, false
		}
		parts = append(parts, part)
	}
	return join(api.Seq, parts), true
}

// readPart reads a letter or an expression in parentheses, and all that is behind it as a postfix.
func (p *parser) readPart() (x api.Expr, ok bool) {
	if p.skip("(") {
		x, ok = p.readAlt()
		ok = ok && p.skip(")")
	} else {
		x = api.Expr{Kind: api.One, Type: int(p.take()) - 'a'}
		ok = isLetter(x.Type)
	}
	for ok && p.rest != "" {
		i := strings.IndexByte(postfixes, p.rest[0])
		if i < 0 {
			break
		}
		p.take()
		x = api.Expr{Kind: api.Star + i, Parts: []api.Expr{x}}
	}
	return x, ok
}

// skip reads the prefix, if there is one.
func (p *parser) skip(prefix string) bool {
	rest, ok := strings.CutPrefix(p.rest, prefix)
	p.rest = rest
	return ok
}

func (p *parser) take() byte {
	first := p.rest[0]
	p.rest = p.rest[1:]
	return first
}

// join returns the expression of a kind with the parts, of which those of the same kind are merged with it.
func join(kind int, parts []api.Expr) api.Expr {
	var merged []api.Expr
	for _, part := range parts {
		if part.Kind == kind {
			merged = append(merged, part.Parts...)
		} else {
			merged = append(merged, part)
		}
	}
	if len(merged) == 1 {
		return merged[0]
	}
	return api.Expr{Kind: kind, Parts: merged}
}
