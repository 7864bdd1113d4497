package arena

import (
	"slices"

	"souffleur/api"
)

// Maker makes trees, node by node.
type Maker struct {
	made   bool
	nodes  []Node
	open   []int
	tokens int
}

// Begin begins one.
func Begin() *Maker { return &Maker{made: true} }

// plain tells whether no call made a maker.
func (m *Maker) plain() bool { return m == nil || !m.made }

// put puts a node within the one that is open.
func (m *Maker) put(n Node) int {
	i := len(m.nodes)
	if at := len(m.open) - 1; at >= 0 {
		up := &m.nodes[m.open[at]]
		up.Kids = append(up.Kids, i)
	}
	m.nodes = append(m.nodes, n)
	return i
}

// Open begins a rule within the one that is open.
func (m *Maker) Open(rule int) api.Errno {
	switch {
	case m.plain():
		return api.ErrNil
	case len(m.nodes) > 0 && len(m.open) == 0:
		return api.ErrState
	case rule < 0:
		return api.ErrArg
	}
	m.open = append(m.open, m.put(Node{Arg: rule, From: m.tokens, Open: true}))
	return api.OK
}

// Leaf puts a token there.
func (m *Maker) Leaf(t int) api.Errno {
	switch {
	case m.plain():
		return api.ErrNil
	case len(m.open) == 0:
		return api.ErrState
	case t < 0:
		return api.ErrArg
	}
	m.put(Node{Token: true, Arg: t, From: m.tokens, To: m.tokens + 1})
	m.tokens++
	return api.OK
}

// Shut ends the one that is open.
func (m *Maker) Shut() api.Errno {
	if m.plain() {
		return api.ErrNil
	}
	last := len(m.open) - 1
	if last < 0 {
		return api.ErrState
	}
	n := &m.nodes[m.open[last]]
	n.Open, n.To = false, m.tokens
	m.open = m.open[:last]
	return api.OK
}

// Tree tells the tree, with what is open.
func (m *Maker) Tree() Tree {
	if m.plain() || len(m.nodes) == 0 {
		return Tree{}
	}
	t := Tree{Nodes: slices.Clone(m.nodes)}
	for i, n := range t.Nodes {
		t.Nodes[i].Kids = slices.Clone(n.Kids)
		if n.Open {
			t.Nodes[i].To = m.tokens
		}
	}
	return t
}
