package auto

import "bobbinet/api"

// set is a set of places, one bit each: MaxExpr leaves room for all of them and the end.
type set uint64

// places are the letters that an expression has, from left to right. The end is the place behind them.
type places struct {
	letters []int
	behind  []set // what may come right behind each place
}

// span tells at which places the words of a part may begin and end, and whether the empty word is one of them.
type span struct {
	first, last set
	mayBeEmpty  bool
}

// add adds the places of x.
func (p *places) add(x api.Expr) span {
	switch x.Kind {
	case api.One:
		here := set(1) << len(p.letters)
		p.letters = append(p.letters, x.Type)
		p.behind = append(p.behind, 0)
		return span{first: here, last: here}
	case api.Seq:
		all := span{mayBeEmpty: true}
		for _, part := range x.Parts {
			all = p.join(all, p.add(part))
		}
		return all
	case api.Alt:
		all := span{}
		for _, part := range x.Parts {
			s := p.add(part)
			all = span{all.first | s.first, all.last | s.last, all.mayBeEmpty || s.mayBeEmpty}
		}
		return all
	}
	s := p.add(x.Parts[0])
	if x.Kind != api.Opt {
		p.connect(s.last, s.first)
	}
	s.mayBeEmpty = s.mayBeEmpty || x.Kind != api.Plus
	return s
}

// join returns the span of a word of one span with a word of the other right behind it.
func (p *places) join(ahead, behind span) span {
	p.connect(ahead.last, behind.first)
	all := span{ahead.first, behind.last, ahead.mayBeEmpty && behind.mayBeEmpty}
	if ahead.mayBeEmpty {
		all.first |= behind.first
	}
	if behind.mayBeEmpty {
		all.last |= ahead.last
	}
	return all
}

// connect lets each place of the second set come right behind each of the first.
func (p *places) connect(ahead, behind set) {
	for place := range p.behind {
		if ahead.has(place) {
			p.behind[place] |= behind
		}
	}
}

func (s set) has(place int) bool {
	return s>>place&1 == 1
}

// determined returns a machine that accepts the words that x, which is valid, matches. Its states are the sets of places at which the rest of a word may begin.
func determined(x api.Expr) machine {
	p := &places{}
	all := p.add(x)
	end := len(p.letters)
	all = p.join(all, span{first: 1 << end})
	isFinal := func(s set) bool { return s.has(end) }
	return explore(all.first, isFinal, func(s set, letter int) (set, bool) {
		var rest set
		for place, l := range p.letters {
			if l == letter && s.has(place) {
				rest |= p.behind[place]
			}
		}
		return rest, rest != 0
	})
}
