package nfa

import (
	"souffleur/api"
	"souffleur/chars"
	"souffleur/check"
	"souffleur/gram"
	"souffleur/utf"
	"souffleur/vocab"
)

// builder makes an automaton, state by state, up to where it is too great.
type builder struct {
	g   gram.Grammar
	n   Nfa
	big bool
}

// Build makes the automaton of a grammar without faults.
func Build(g gram.Grammar, v vocab.Vocab) (Nfa, api.Errno) {
	if check.First(g).Code != api.OK || !v.Same(vocab.Of(g)) {
		return Nfa{}, api.ErrArg
	}
	b := &builder{g: g}
	start := b.state()
	for t, x := range v.Types {
		var begin, end int
		if x.Rule < 0 {
			begin, end = b.state(), b.state()
			b.literal(x.Text, begin, end)
		} else {
			begin, end = b.node(g.Rules[x.Rule].Root)
		}
		if b.big {
			return Nfa{}, api.ErrBig
		}
		b.free(start, begin)
		b.n.Accept[end] = t
	}
	return b.n, api.OK
}

func (b *builder) state() int {
	if b.n.Long() == api.MaxStates {
		b.big = true
		return 0
	}
	b.n.Eps = append(b.n.Eps, nil)
	b.n.Edges = append(b.n.Edges, nil)
	b.n.Accept = append(b.n.Accept, none)
	return b.n.Long() - 1
}

func (b *builder) free(from, to int) { b.n.Eps[from] = append(b.n.Eps[from], to) }

func (b *builder) edge(from int, set chars.Set, to int) {
	b.n.Edges[from] = append(b.n.Edges[from], Edge{Set: chars.Of(set...), To: to})
}

// node makes two states, from the first of which a node's words lead to the second one. Each node makes its states ahead of those within it: so what is too great ends soon, and not too deep.
func (b *builder) node(i int) (int, int) {
	begin, end := b.state(), b.state()
	if b.big {
		return 0, 0
	}
	n := b.g.Nodes[i]
	switch n.Kind {
	case gram.Alt:
		for _, k := range n.Kids {
			from, to := b.node(k)
			if b.big {
				break
			}
			b.free(begin, from)
			b.free(to, end)
		}
	case gram.Seq:
		at := begin
		for _, k := range n.Kids {
			from, to := b.node(k)
			if b.big {
				break
			}
			b.free(at, from)
			at = to
		}
		b.free(at, end)
	case gram.Opt, gram.Star, gram.Plus:
		b.repeated(n, begin, end)
	case gram.Name:
		from, to := b.node(b.g.Rules[b.g.Find(n.Text)].Root)
		b.free(begin, from)
		b.free(to, end)
	case gram.Lit:
		b.literal(n.Text, begin, end)
	case gram.Class:
		b.edge(begin, n.Set, end)
	}
	return begin, end
}

func (b *builder) repeated(n gram.Node, begin, end int) {
	from, to := b.node(n.Kids[0])
	b.free(begin, from)
	b.free(to, end)
	if n.Kind != gram.Plus {
		b.free(begin, end)
	}
	if n.Kind != gram.Opt {
		b.free(to, from)
	}
}

// literal leads from a state to another one by a text. What is not all signs is no word: nothing leads there then.
func (b *builder) literal(s string, begin, end int) {
	if !utf.Right(s) {
		return
	}
	at := begin
	for _, r := range s {
		next := b.state()
		if b.big {
			return
		}
		b.edge(at, chars.Set{{Lo: r, Hi: r}}, next)
		at = next
	}
	b.free(at, end)
}
