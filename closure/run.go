package closure

import (
	"slices"

	"souffleur/api"
	"souffleur/atn"
	"souffleur/bits"
	"souffleur/stack"
)

const (
	few  = 16 // up to so many spots are looked through one by one
	many = 64 // from so many on they may stand in rows of bits
)

// run is what one Close has found.
type run struct {
	w     *Walk
	s     *stack.Stack
	at    int
	held  bits.Set
	most  int
	c     Closed
	seen  map[Spot]int // the spots, where there are more than a few
	rows  [][]uint64   // of each state the nodes it was come to with, where there are many spots for so few nodes
	ended map[int]int  // nodes of this place with which a rule's stop was come to
	code  api.Errno
}

// come takes a spot that is come to.
func (r *run) come(x Spot) {
	if r.code != api.OK || r.met(x) {
		return
	}
	if len(r.c.Spots) >= r.most {
		r.code = api.ErrBudget
		return
	}
	r.c.Spots = append(r.c.Spots, x)
	switch n := len(r.c.Spots); {
	case r.rows != nil:
		r.mark(x)
	case n >= many && r.s.Long() <= 8*n:
		r.rows = make([][]uint64, r.w.a.Long())
		for _, y := range r.c.Spots {
			r.mark(y)
		}
	case n == few+1:
		for _, y := range r.c.Spots {
			r.seen[y] = 1
		}
	case n > few:
		r.seen[x] = 1
	}
}

func (r *run) met(x Spot) bool {
	if len(r.c.Spots) <= few {
		return slices.Contains(r.c.Spots, x)
	}
	if r.rows == nil || x.State >= len(r.rows) {
		return r.seen[x] > 0
	}
	row := r.rows[x.State]
	return x.Node/64 < len(row) && row[x.Node/64]>>(x.Node%64)&1 == 1
}

// mark puts a spot to the rows of bits; one of no state, which a stack made elsewhere may lead to, has no row.
func (r *run) mark(x Spot) {
	if x.State >= len(r.rows) {
		r.seen[x] = 1
		return
	}
	if need := x.Node/64 + 1; need > len(r.rows[x.State]) {
		row := make([]uint64, max(need, r.s.Long()/64+1))
		copy(row, r.rows[x.State])
		r.rows[x.State] = row
	}
	r.rows[x.State][x.Node/64] |= 1 << (x.Node % 64)
}

// goOn takes what a spot leads to. A stack that was made elsewhere may go back to what is no state: from there nothing leads on.
func (r *run) goOn(x Spot) {
	a := r.w.a
	if x.State >= a.Long() {
		return
	}
	if a.Stop[a.Owner[x.State]] == x.State {
		r.end(x.Node)
	}
	for _, e := range a.Edges[x.State] {
		switch e.Kind {
		case atn.Free:
			r.come(Spot{State: e.To, Node: x.Node})
		case atn.Call:
			r.call(x, e)
		}
	}
}

// end goes back from a rule's stop.
func (r *run) end(node int) {
	if node == 0 {
		r.c.Ends = true
		return
	}
	// Only nodes of this place may come to go on to others while this Close goes on.
	if r.s.At(node) == r.at {
		r.ended[node] = 1
	}
	ret := r.s.Ret(node)
	for _, up := range r.s.Ups(node) {
		r.come(Spot{State: ret, Node: up})
	}
}

func (r *run) call(x Spot, e atn.Edge) {
	if r.held.Has(e.Arg) {
		if h := (Hit{Rule: e.Arg, From: x}); !r.hit(h) {
			r.c.Hits = append(r.c.Hits, h)
		}
		if r.w.empty[e.Arg] {
			r.come(Spot{State: e.To, Node: x.Node})
		}
		return
	}
	node, _, linked, code := r.s.Put(e.To, r.at, x.Node)
	if code != api.OK {
		if r.code == api.OK {
			r.code = code
		}
		return
	}
	// A stop that was come to with that node ahead of this goes back this way too.
	if linked && r.ended[node] > 0 {
		r.come(Spot{State: e.To, Node: x.Node})
	}
	r.come(Spot{State: r.w.a.Start[e.Arg], Node: node})
}

// hit tells whether a hit is there already: those of one spot stand together.
func (r *run) hit(h Hit) bool {
	for i := len(r.c.Hits) - 1; i >= 0 && r.c.Hits[i].From == h.From; i-- {
		if r.c.Hits[i] == h {
			return true
		}
	}
	return false
}
