package gram

import (
	"slices"

	"souffleur/api"
	"souffleur/chars"
	"souffleur/lex"
)

// reader reads a grammar: peek tells the part that is read next, and the one behind it; step leaves the first of them behind.
type reader struct {
	peek func() (lex.Tok, lex.Tok)
	step func() lex.Tok
	g    Grammar
	open int
}

// Read tells the grammar of a text, or what is wrong first, and where.
func Read(s string) (Grammar, api.Stop) {
	toks, stop := lex.All(s)
	if stop.Code != api.OK {
		return Grammar{}, stop
	}
	at, last := 0, len(toks)-1
	r := &reader{}
	r.peek = func() (lex.Tok, lex.Tok) { return toks[at], toks[min(at+1, last)] }
	r.step = func() lex.Tok {
		x := toks[at]
		at = min(at+1, last)
		return x
	}
	for more := true; more; more = toks[at].Kind != lex.End {
		if stop := r.rule(); stop.Code != api.OK {
			return Grammar{}, stop
		}
	}
	return r.g, api.Stop{}
}

func isName(x lex.Tok) bool { return x.Kind == lex.Upper || x.Kind == lex.Lower }

// refuse tells what is wrong with the part that is read next.
func (r *reader) refuse() api.Stop {
	x, _ := r.peek()
	if x.Kind == lex.End {
		return api.Stop{Code: api.ErrEnd, At: x.At}
	}
	return api.Stop{Code: api.ErrSign, At: x.At}
}

// want leaves a part behind that must be of a kind.
func (r *reader) want(kinds ...int) (lex.Tok, api.Stop) {
	if x, _ := r.peek(); !slices.Contains(kinds, x.Kind) {
		return lex.Tok{}, r.refuse()
	}
	return r.step(), api.Stop{}
}

// add puts a node there, that is ended by a part at a place.
func (r *reader) add(n Node, ended int) (int, api.Stop) {
	if len(r.g.Nodes) == api.MaxNodes {
		return 0, api.Stop{Code: api.ErrBig, At: ended}
	}
	r.g.Nodes = append(r.g.Nodes, n)
	return len(r.g.Nodes) - 1, api.Stop{}
}

func (r *reader) rule() api.Stop {
	rule, stop := r.head()
	if stop.Code != api.OK {
		return stop
	}
	if _, stop = r.want(lex.Colon); stop.Code != api.OK {
		return stop
	}
	if rule.Root, stop = r.choices(lex.Arrow, lex.Semi); stop.Code != api.OK {
		return stop
	}
	if x, _ := r.peek(); x.Kind == lex.Arrow {
		r.step()
		if stop = r.said(&rule); stop.Code != api.OK {
			return stop
		}
	}
	if _, stop = r.want(lex.Semi); stop.Code != api.OK {
		return stop
	}
	r.g.Rules = append(r.g.Rules, rule)
	return api.Stop{}
}

// head reads a rule's name, and whether it is a fragment.
func (r *reader) head() (Rule, api.Stop) {
	var rule Rule
	if x, behind := r.peek(); x.Kind == lex.Lower && x.Text == "fragment" && isName(behind) {
		r.step()
		rule.Fragment = true
	}
	x, stop := r.want(lex.Upper, lex.Lower)
	if stop.Code != api.OK {
		return Rule{}, stop
	}
	rule.Name, rule.At, rule.Upper = x.Text, x.At, x.Kind == lex.Upper
	if rule.Fragment && !rule.Upper {
		return Rule{}, api.Stop{Code: api.ErrKind, At: x.At}
	}
	if len(r.g.Rules) == api.MaxRules {
		return Rule{}, api.Stop{Code: api.ErrBig, At: x.At}
	}
	return rule, api.Stop{}
}

// said reads the name behind an Arrow.
func (r *reader) said(rule *Rule) api.Stop {
	x, stop := r.want(lex.Upper, lex.Lower)
	if stop.Code != api.OK {
		return stop
	}
	if !rule.Upper {
		return api.Stop{Code: api.ErrKind, At: rule.At}
	}
	switch x.Text {
	case "skip":
		rule.Channel = Skip
	case "hidden":
		rule.Channel = Hidden
	case "word":
		rule.Word = true
	default:
		return api.Stop{Code: api.ErrName, At: x.At}
	}
	return api.Stop{}
}

// choices reads rows, up to a part of one of some kinds, that is not left behind.
func (r *reader) choices(ends ...int) (int, api.Stop) {
	var rows []int
	for {
		n, stop := r.row(ends)
		if stop.Code != api.OK {
			return 0, stop
		}
		rows = append(rows, n)
		x, _ := r.peek()
		if x.Kind == lex.Bar {
			r.step()
			continue
		}
		if len(rows) == 1 {
			return n, api.Stop{}
		}
		return r.add(Node{Kind: Alt, Kids: rows}, x.At)
	}
}

func (r *reader) row(ends []int) (int, api.Stop) {
	var kids []int
	for {
		x, _ := r.peek()
		switch x.Kind {
		case lex.Upper, lex.Lower, lex.Lit, lex.Class, lex.Dot, lex.Not, lex.Open:
			n, stop := r.element()
			if stop.Code != api.OK {
				return 0, stop
			}
			kids = append(kids, n)
			continue
		}
		// What may not stand behind a row is wrong ahead of there being too many nodes.
		if x.Kind != lex.Bar && !slices.Contains(ends, x.Kind) {
			return 0, r.refuse()
		}
		return r.add(Node{Kind: Seq, Kids: kids}, x.At)
	}
}

func (r *reader) element() (int, api.Stop) {
	n, stop := r.atom()
	if stop.Code != api.OK {
		return 0, stop
	}
	var kind int
	x, _ := r.peek()
	switch x.Kind {
	case lex.Opt:
		kind = Opt
	case lex.Star:
		kind = Star
	case lex.Plus:
		kind = Plus
	default:
		return n, api.Stop{}
	}
	r.step()
	return r.add(Node{Kind: kind, Kids: []int{n}}, x.At)
}

func (r *reader) atom() (int, api.Stop) {
	x := r.step()
	switch x.Kind {
	case lex.Upper, lex.Lower:
		return r.add(Node{Kind: Name, Text: x.Text, At: x.At}, x.At)
	case lex.Lit:
		return r.add(Node{Kind: Lit, Text: x.Text, At: x.At}, x.At)
	case lex.Class:
		return r.add(Node{Kind: Class, Set: x.Set, At: x.At}, x.At)
	case lex.Dot:
		return r.add(Node{Kind: Class, Set: chars.All(), At: x.At}, x.At)
	case lex.Not:
		c, stop := r.want(lex.Class)
		if stop.Code != api.OK {
			return 0, stop
		}
		return r.add(Node{Kind: Class, Set: c.Set.Not(), At: x.At}, c.At)
	}
	return r.within(x.At)
}

// within reads choices between brackets, of which the first is left behind already.
func (r *reader) within(at int) (int, api.Stop) {
	if r.open == api.MaxNest {
		return 0, api.Stop{Code: api.ErrNest, At: at}
	}
	r.open++
	n, stop := r.choices(lex.Close)
	if stop.Code != api.OK {
		return 0, stop
	}
	r.step()
	r.open--
	return n, api.Stop{}
}
