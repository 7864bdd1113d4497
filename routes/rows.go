package routes

import (
	"cmp"
	"slices"

	"souffleur/atn"
	"souffleur/closure"
	"souffleur/stack"
)

// graph is the nodes of some rows, with how few, and how many, steps each is from the bottom.
type graph struct {
	ups       [][]int
	near, far []int
	known     map[reach]int
}

// reach asks whether the bottom is so many steps from a node.
type reach struct{ node, steps int }

const (
	yes = 1
	no  = 2
)

// graphOf tells the graph of spots; false, where a node goes on to itself.
func graphOf(s *stack.Stack, l []closure.Spot) (*graph, bool) {
	n := s.Long()
	g := &graph{ups: make([][]int, n), near: make([]int, n), far: make([]int, n), known: map[reach]int{}}
	next := make([]int, n) // of each node that was begun one more than the number of its ways on that were gone
	for _, x := range l {
		row := []int{x.Node}
		for len(row) > 0 {
			node := row[len(row)-1]
			if next[node] == 0 {
				g.ups[node] = s.Ups(node)
				next[node] = 1
			}
			if next[node] > len(g.ups[node]) {
				g.settle(node)
				next[node] = len(g.ups[node]) + 2
				row = row[:len(row)-1]
				continue
			}
			up := g.ups[node][next[node]-1]
			if begun := next[up] > 0; !begun {
				row = append(row, up)
			} else if next[up] <= len(g.ups[up])+1 {
				return nil, false
			} else {
				next[node]++
			}
		}
	}
	return g, true
}

// settle tells how far a node is from the bottom, of which all ways on are settled.
func (g *graph) settle(node int) {
	for i, up := range g.ups[node] {
		if i == 0 {
			g.near[node], g.far[node] = g.near[up]+1, g.far[up]+1
		}
		g.near[node] = min(g.near[node], g.near[up]+1)
		g.far[node] = max(g.far[node], g.far[up]+1)
	}
}

// can tells whether the bottom is so many steps from a node.
func (g *graph) can(node, steps int) bool {
	if steps <= g.near[node] || steps >= g.far[node] {
		return steps == g.near[node] || steps == g.far[node]
	}
	x := reach{node, steps}
	if known := g.known[x]; known > 0 {
		return known == yes
	}
	g.known[x] = no
	for _, up := range g.ups[node] {
		if g.can(up, steps-1) {
			g.known[x] = yes
			break
		}
	}
	return g.known[x] == yes
}

// few is up to how many nodes are gone on from anew, whenever that is asked.
const few = 8

// group is a rule, and nodes by which a row goes on behind it, rising.
type group struct {
	rule  int
	nodes []int
}

// teller tells rows in order: of each length those with the lesser rules first, from the last rule on.
type teller struct {
	a     atn.Atn
	s     *stack.Stack
	g     *graph
	most  int
	row   []int // from the last rule on
	rows  [][]int
	more  bool
	known map[string][]group // what many nodes go on to

	groups int   // how many groups were made
	met    []int // of each node the last group that it was put to
}

func (t *teller) all(l []closure.Spot) {
	near, far := 0, -1
	var begins []group
	for i, x := range l {
		if i == 0 {
			near = t.g.near[x.Node]
		}
		near, far = min(near, t.g.near[x.Node]), max(far, t.g.far[x.Node])
		begins = append(begins, group{t.a.Owner[x.State], []int{x.Node}})
	}
	begins = t.joined(begins)
	for left := near; left <= far && !t.more; left++ {
		t.each(begins, left)
	}
}

// joined tells groups by their rules, rising, those of one rule as one.
func (t *teller) joined(l []group) []group {
	slices.SortStableFunc(l, func(a, b group) int { return cmp.Compare(a.rule, b.rule) })
	var out []group
	for i, x := range l {
		if i == 0 || l[i-1].rule != x.rule {
			out = append(out, group{rule: x.rule})
			t.groups++
		}
		last := &out[len(out)-1]
		for _, n := range x.nodes {
			if t.met[n] != t.groups {
				t.met[n] = t.groups
				last.nodes = append(last.nodes, n)
			}
		}
	}
	for _, x := range out {
		slices.Sort(x.nodes)
	}
	return out
}

// each goes on by those groups from which the bottom is so many nodes away.
func (t *teller) each(groups []group, left int) {
	for _, x := range groups {
		if t.more {
			return
		}
		if slices.ContainsFunc(x.nodes, func(n int) bool { return t.g.can(n, left) }) {
			t.row = append(t.row, x.rule)
			t.on(x.nodes, left)
			t.row = t.row[:len(t.row)-1]
		}
	}
}

// on goes on from nodes.
func (t *teller) on(nodes []int, left int) {
	if left == 0 {
		t.tell()
		return
	}
	t.each(t.ups(nodes), left-1)
}

// ups tells what nodes go on to. Of many nodes it is kept: rows of other lengths go by the same ones.
func (t *teller) ups(nodes []int) []group {
	if len(nodes) <= few {
		return t.upsAnew(nodes)
	}
	key := make([]byte, 0, 4*len(nodes))
	for _, n := range nodes {
		key = append(key, byte(n), byte(n>>8), byte(n>>16), byte(n>>24))
	}
	l, ok := t.known[string(key)]
	if !ok {
		l = t.upsAnew(nodes)
		t.known[string(key)] = l
	}
	return l
}

func (t *teller) upsAnew(nodes []int) []group {
	var l []group
	for _, n := range nodes {
		if n > 0 {
			l = append(l, group{t.a.Owner[t.s.Ret(n)], t.g.ups[n]})
		}
	}
	return t.joined(l)
}

func (t *teller) tell() {
	if len(t.rows) == t.most {
		t.more = true
		return
	}
	row := slices.Clone(t.row)
	slices.Reverse(row)
	t.rows = append(t.rows, row[:len(row):len(row)])
}
