package routes

import (
	"cmp"
	"slices"

	"souffleur/atn"
	"souffleur/closure"
	"souffleur/stack"
)

// graph is the nodes of some rows, with how few, and how many, steps each is from the bottom.
type graph struct {
	ups       [][]int
	near, far []int
	known     map[reach]int
}

// reach asks whether the bottom is so many steps from a node.
type reach struct{ node, steps int }

const (
	yes = 1
	no  = 2
)

// graphOf tells the graph of spots; false, where a node goes on to itself.
func graphOf(s *stack.Stack, l []closure.Spot) (*graph, bool) {
	n := s.Long()
	g := &graph{ups: make([][]int, n), near: make([]int, n), far: make([]int, n), known: map[reach]int{}}
	next := make([]int, n) // of each node that was begun one more than the number of its ways on that were gone
	for _, x := range l {
		row := []int{x.Node}
		for len(row) > 0 {
			node := row[len(row)-1]
			if next[node] == 0 {
				g.ups[node] = s.Ups(node)
				next[node] = 1
			}
			if next[node] > len(g.ups[node]) {
				g.settle(node)
				next[node] = len(g.ups[node]) + 2
				row = row[:len(row)-1]
				continue
			}
			up := g.ups[node][next[node]-1]
			if begun := next[up] > 0; !begun {
				row = append(row, up)
			} else if next[up] <= len(g.ups[up])+1 {
				return nil, false
			} else {
				next[node]++
			}
		}
	}
	return g, true
}

// settle tells how far a node is from the bottom, of which all ways on are settled.
func (g *graph) settle(node int) {
	for i, up := range g.ups[node] {
		if i == 0 {
			g.near[node], g.far[node] = g.near[up]+1, g.far[up]+1
		}
		g.near[node] = min(g.near[node], g.near[up]+1)
		g.far[node] = max(g.far[node], g.far[up]+1)
	}
}

// can tells whether the bottom is so many steps from a node.
func (g *graph) can(node, steps int) bool {
	if steps <= g.near[node] || steps >= g.far[node] {
		return steps == g.near[node] || steps == g.far[node]
	}
	x := reach{node, steps}
	if known := g.known[x]; known > 0 {
		return known == yes
	}
	g.known[x] = no
	for _, up := range g.ups[node] {
		if g.can(up, steps-1) {
			g.known[x] = yes
			break
		}
	}
	return g.known[x] == yes
}

// step is a rule of a row, and a node by which the row goes on.
type step struct{ rule, node int }

// teller tells rows in order: of each length those with the lesser rules first, from the last rule on.
type teller struct {
	a    atn.Atn
	s    *stack.Stack
	g    *graph
	most int
	row  []int // from the last rule on
	rows [][]int
	more bool
}

func (t *teller) all(l []closure.Spot) {
	near, far := 0, -1
	for i, x := range l {
		if i == 0 {
			near = t.g.near[x.Node]
		}
		near, far = min(near, t.g.near[x.Node]), max(far, t.g.far[x.Node])
	}
	for left := near; left <= far && !t.more; left++ {
		var steps []step
		for _, x := range l {
			if t.g.can(x.Node, left) {
				steps = append(steps, step{t.a.Owner[x.State], x.Node})
			}
		}
		t.each(steps, left)
	}
}

// each goes on by steps, rule by rule, with so many nodes ahead of the bottom.
func (t *teller) each(steps []step, left int) {
	slices.SortFunc(steps, func(a, b step) int { return cmp.Or(cmp.Compare(a.rule, b.rule), cmp.Compare(a.node, b.node)) })
	steps = slices.Compact(steps)
	for from := 0; from < len(steps) && !t.more; {
		to := from
		for to < len(steps) && steps[to].rule == steps[from].rule {
			to++
		}
		t.row = append(t.row, steps[from].rule)
		t.on(steps[from:to], left)
		t.row = t.row[:len(t.row)-1]
		from = to
	}
}

// on goes on from the nodes of steps of one rule.
func (t *teller) on(at []step, left int) {
	if left == 0 {
		t.tell()
		return
	}
	var steps []step
	for _, x := range at {
		rule := t.a.Owner[t.s.Ret(x.node)]
		for _, up := range t.g.ups[x.node] {
			if t.g.can(up, left-1) {
				steps = append(steps, step{rule, up})
			}
		}
	}
	t.each(steps, left-1)
}

func (t *teller) tell() {
	if len(t.rows) == t.most {
		t.more = true
		return
	}
	row := slices.Clone(t.row)
	slices.Reverse(row)
	t.rows = append(t.rows, row[:len(row):len(row)])
}
