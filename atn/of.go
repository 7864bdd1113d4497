package atn

import (
	"souffleur/api"
	"souffleur/check"
	"souffleur/gram"
	"souffleur/vocab"
)

// maker makes an automaton, state by state, up to where it is too great.
type maker struct {
	g     gram.Grammar
	v     vocab.Vocab
	a     Atn
	lower []int  // of each rule of the grammar its number among the lower ones; -1: an upper one
	void  []bool // nodes by which one comes to no other state
	big   bool
}

// Of makes the automaton of a grammar without faults.
func Of(g gram.Grammar, v vocab.Vocab) (Atn, api.Errno) {
	if check.First(g).Code != api.OK || !v.Same(vocab.Of(g)) {
		return Atn{}, api.ErrArg
	}
	m := &maker{g: g, v: v, a: Atn{Types: v.Long()}}
	for _, r := range g.Rules {
		if r.Upper {
			m.lower = append(m.lower, -1)
		} else {
			m.lower = append(m.lower, len(m.a.Names))
			m.a.Names = append(m.a.Names, r.Name)
		}
	}
	m.findVoid()
	for i, r := range g.Rules {
		if m.lower[i] >= 0 {
			m.rule(m.lower[i], r.Root)
		}
		if m.big {
			return Atn{}, api.ErrBig
		}
	}
	return m.a, api.OK
}

// findVoid: a grammar that was not read may have nodes that stand within many others; those that make no states are left out, so that there is an end.
func (m *maker) findVoid() {
	m.void = make([]bool, len(m.g.Nodes))
	for i, n := range m.g.Nodes {
		m.void[i] = n.Kind == gram.Seq
		for _, k := range n.Kids {
			m.void[i] = m.void[i] && m.void[k]
		}
	}
}

func (m *maker) state(rule int) int {
	if len(m.a.Owner) == api.MaxStates {
		m.big = true
		return 0
	}
	m.a.Owner = append(m.a.Owner, rule)
	m.a.Edges = append(m.a.Edges, nil)
	return len(m.a.Owner) - 1
}

func (m *maker) edge(from, kind, arg, to int) {
	m.a.Edges[from] = append(m.a.Edges[from], Edge{Kind: kind, Arg: arg, To: to})
}

func (m *maker) free(from, to int) { m.edge(from, Free, 0, to) }

// way goes on from a state, by a node; it tells the state that it comes to.
type way func(from, node int) int

// rule makes the states of a rule.
func (m *maker) rule(rule, root int) {
	start, stop := m.state(rule), m.state(rule)
	m.a.Start = append(m.a.Start, start)
	m.a.Stop = append(m.a.Stop, stop)
	fresh := func() int { return m.state(rule) }
	var on way
	on = func(from, node int) int {
		if m.big || m.void[node] {
			return from
		}
		n := m.g.Nodes[node]
		switch n.Kind {
		case gram.Seq:
			for _, k := range n.Kids {
				from = on(from, k)
			}
			return from
		case gram.Alt:
			return m.alternatives(n, from, fresh, on)
		case gram.Opt, gram.Star:
			return m.perhaps(n, from, fresh, on)
		case gram.Plus:
			return m.repeated(n, from, fresh, on)
		}
		return m.leaf(n, from, fresh)
	}
	if end := on(start, root); !m.big {
		m.free(end, stop)
	}
}

func (m *maker) alternatives(n gram.Node, from int, fresh func() int, on way) int {
	d, e := fresh(), fresh()
	m.free(from, d)
	for _, k := range n.Kids {
		b := fresh()
		if m.big {
			break
		}
		m.free(d, b)
		m.free(on(b, k), e)
	}
	return e
}

// perhaps goes on by what may be left out, once or, behind a Star, again and again.
func (m *maker) perhaps(n gram.Node, from int, fresh func() int, on way) int {
	d, e, b := fresh(), fresh(), fresh()
	m.free(from, d)
	m.free(d, b)
	back := e
	if n.Kind == gram.Star {
		back = d
	}
	m.free(on(b, n.Kids[0]), back)
	m.free(d, e)
	return e
}

func (m *maker) repeated(n gram.Node, from int, fresh func() int, on way) int {
	b := fresh()
	m.free(from, b)
	last := on(b, n.Kids[0])
	d, e := fresh(), fresh()
	m.free(last, d)
	m.free(d, b)
	m.free(d, e)
	return e
}

// leaf goes on by a token, or a call. A node that lies in another rule too, and is neither here, leads nowhere.
func (m *maker) leaf(n gram.Node, from int, fresh func() int) int {
	to := fresh()
	t := -1
	switch n.Kind {
	case gram.Lit:
		t = m.v.Literal(n.Text)
	case gram.Name:
		rule := m.g.Find(n.Text)
		if m.lower[rule] >= 0 {
			m.edge(from, Call, m.lower[rule], to)
			return to
		}
		t = m.v.Rule(rule)
	}
	if t >= 0 {
		m.edge(from, Token, t, to)
	}
	return to
}
