package parse

import (
	"souffleur/api"
	"souffleur/cache"
	"souffleur/closure"
	"souffleur/predict"
)

// chooser tells which edges to go by.
type chooser struct {
	w    *closure.Walk
	most int
	c    *cache.Cache
	// soon: all ways together took so few steps that no look ahead by one way takes too many. (Where they have one node, it has at most one for each rule, and one more.) So a look may end as soon as it tells enough.
	soon bool
}

// choose tells the first edge by which what is left of a way may come, as it is kept, or as predict tells it.
func (x chooser) choose(y *way) (int, api.Errno) {
	key := ""
	if x.c.Room() > 0 {
		key = Key(y.spot.State, y.spot.Rets, y.types, y.whole)
		if edge, ok := x.c.Get(key); ok && edge >= 0 && edge < len(y.a.Edges[y.spot.State]) {
			return edge, api.OK
		}
	}
	edge, code := x.find(y)
	if code != api.OK {
		return 0, code
	}
	// An automaton that was not made of a grammar may go on behind a rule's stop: a way does not.
	if edge < 0 {
		return 0, api.ErrState
	}
	x.c.Put(key, edge)
	return edge, api.OK
}

// find looks ahead further and further, up to where just one edge is left: by that one what is left may come, as it may by one.
func (x chooser) find(y *way) (int, api.Errno) {
	var edges []int
	for i := range y.a.Edges[y.spot.State] {
		edges = append(edges, i)
	}
	for n := 8; x.soon && n < len(y.types) && len(edges) > 0; n *= 8 {
		if edges = x.leading(y, edges, n); len(edges) == 1 {
			return edges[0], api.OK
		}
	}
	return predict.Choose(x.w, y.spot, y.types, y.whole, x.most)
}

// leading tells which of some edges lead on by so many types; none, where that can't be told.
func (x chooser) leading(y *way, edges []int, n int) []int {
	var lead []int
	for _, i := range edges {
		ok, code := predict.Edge(x.w, y.spot, i, y.types[:n], false, x.most)
		if code != api.OK {
			return nil
		}
		if ok {
			lead = append(lead, i)
		}
	}
	return lead
}

// Key tells what a choice hangs on, as a text.
func Key(state int, rets, types []int, whole bool) string {
	b := make([]byte, 0, 16+2*len(rets)+len(types))
	end := 0
	if whole {
		end = 1
	}
	b = number(number(b, state), end)
	for _, l := range [][]int{rets, types} {
		b = number(b, len(l))
		for _, n := range l {
			b = number(b, n)
		}
	}
	return string(b)
}

// number lays a number by seven bits a byte, the lowest first; the last byte alone is below 128.
func number(b []byte, n int) []byte {
	u := uint64(n)
	for range 10 {
		if u < 0x80 {
			break
		}
		b = append(b, byte(u)|0x80)
		u >>= 7
	}
	return append(b, byte(u))
}
