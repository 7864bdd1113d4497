package routes

import (
	"cmp"
	"math"
	"math/rand"
	"slices"
	"testing"

	"souffleur/api"
	"souffleur/atn"
	"souffleur/bits"
	"souffleur/closure"
	"souffleur/gram"
	"souffleur/left"
	"souffleur/offer"
	"souffleur/sim"
	"souffleur/stack"
	"souffleur/vocab"
)

const lots = 1 << 30

func walk(t *testing.T, s string) (*closure.Walk, atn.Atn) {
	t.Helper()
	g, stop := gram.Read(s)
	if stop.Code != api.OK {
		t.Fatal(s, stop)
	}
	a, _ := atn.Of(g, vocab.Of(g))
	a, code, _ := left.Ready(a)
	w, code2 := closure.New(a)
	if code != api.OK || code2 != api.OK {
		t.Fatal(s, code, code2)
	}
	return w, a
}

// rules tells an automaton of so many rules, each of one state.
func rules(n int) atn.Atn {
	a := atn.Atn{Names: make([]string, n), Edges: make([][]atn.Edge, n)}
	for i := range n {
		a.Start, a.Stop, a.Owner = append(a.Start, i), append(a.Stop, i), append(a.Owner, i)
	}
	return a
}

// slow goes all rows, one by one.
func slow(a atn.Atn, s *stack.Stack, l []closure.Spot) [][]int {
	var rows [][]int
	var on func(node int, row []int)
	on = func(node int, row []int) {
		if node == 0 {
			rows = append(rows, slices.Clone(row))
			return
		}
		for _, up := range s.Ups(node) {
			on(up, append(row[:len(row):len(row)], a.Owner[s.Ret(node)]))
		}
	}
	for _, x := range l {
		on(x.Node, []int{a.Owner[x.State]})
	}
	slices.SortFunc(rows, func(x, y []int) int { return cmp.Or(cmp.Compare(len(x), len(y)), slices.Compare(x, y)) })
	rows = slices.CompactFunc(rows, func(x, y []int) bool { return slices.Equal(x, y) })
	for _, row := range rows {
		slices.Reverse(row)
	}
	return rows
}

func same(a, b [][]int) bool {
	return slices.EqualFunc(a, b, func(x, y []int) bool { return slices.Equal(x, y) })
}

func TestRandom(t *testing.T) {
	r := rand.New(rand.NewSource(12))
	for range 3000 {
		a := rules(1 + r.Intn(4))
		s := stack.New()
		for n := range r.Intn(9) {
			for range 1 + r.Intn(3) {
				s.Put(r.Intn(len(a.Names)), n, r.Intn(s.Long()))
				if s.Find(0, n) >= 0 && s.Long() > 1 && r.Intn(9) == 0 {
					break
				}
			}
		}
		if cyclic(s) {
			continue
		}
		var l []closure.Spot
		for range r.Intn(4) {
			l = append(l, closure.Spot{State: r.Intn(len(a.Names)), Node: r.Intn(s.Long())})
		}
		all := slow(a, s, l)
		for _, most := range []int{-1, 0, 1, 2, 5, 64, 100, math.MaxInt, math.MinInt} {
			n := min(max(most, 0), 64, len(all))
			rows, more := From(a, s, l, most)
			if !same(rows, all[:n]) || more != (len(all) > n) {
				t.Fatal(rows, more, all, most)
			}
			for _, row := range rows {
				if cap(row) != len(row) {
					t.Fatal("spare room")
				}
			}
		}
		var longs []int
		for _, row := range all {
			longs = append(longs, len(row))
		}
		if got := Long(s, l); !slices.Equal(got, slices.Compact(longs)) {
			t.Fatal(got, longs)
		}
	}
}

func cyclic(s *stack.Stack) bool {
	for n := range s.Long() {
		todo, met := s.Ups(n), map[int]bool{}
		for len(todo) > 0 {
			x := todo[0]
			todo = todo[1:]
			if x == n {
				return true
			}
			if !met[x] {
				met[x] = true
				todo = append(todo, s.Ups(x)...)
			}
		}
	}
	return false
}

func TestManyRows(t *testing.T) {
	a := rules(3)
	s := stack.New()
	s.Put(1, 0, 0)
	s.Put(2, 0, 0)
	for at := 1; at < 40; at++ {
		for ret := 1; ret < 3; ret++ {
			s.Put(ret, at, 2*at-1)
			s.Put(ret, at, 2*at)
		}
	}
	rows, more := From(a, s, []closure.Spot{{State: 0, Node: 2*40 - 1}}, 3)
	if len(rows) != 3 || !more || len(rows[0]) != 41 || rows[0][40] != 0 || rows[0][0] != 1 || rows[1][0] != 2 || rows[2][1] != 2 || rows[2][0] != 1 || !slices.Equal(Long(s, []closure.Spot{{Node: 79}}), []int{41}) {
		t.Error(rows, more)
	}
	deep := stack.New()
	for at := range 100000 {
		deep.Put(at%3, at, at)
	}
	rows, more = From(a, deep, []closure.Spot{{State: 1, Node: 100000}}, 64)
	if len(rows) != 1 || more || len(rows[0]) != 100001 || !slices.Equal(Long(deep, []closure.Spot{{Node: 100000}}), []int{100001}) {
		t.Error(len(rows), more)
	}
}

func TestNone(t *testing.T) {
	a := rules(2)
	s := stack.New()
	s.Put(1, 0, 0)
	good := []closure.Spot{{State: 0, Node: 1}}
	bad := rules(2)
	bad.Owner[1] = 7
	back := stack.New()
	back.Put(1, 0, 0)
	back.Put(2, 0, 0)
	for i, c := range []struct {
		a atn.Atn
		s *stack.Stack
		l []closure.Spot
	}{
		{atn.Atn{}, s, good}, {bad, s, good}, {a, nil, good}, {a, &stack.Stack{}, good}, {a, back, good}, {a, s, nil},
		{a, s, []closure.Spot{{State: 0, Node: 1}, {State: 2, Node: 0}}}, {a, s, []closure.Spot{{State: -1}}}, {a, s, []closure.Spot{{Node: 2}, {Node: 1}}}, {a, s, []closure.Spot{{Node: -1}}},
	} {
		if rows, more := From(c.a, c.s, c.l, 0); len(rows) != 0 || more {
			t.Error(i)
		}
		if rows, more := From(c.a, c.s, c.l, 9); len(rows) != 0 || more {
			t.Error(i)
		}
	}
	if len(Long(nil, good)) != 0 || len(Long(&stack.Stack{}, good)) != 0 || len(Long(s, nil)) != 0 || len(Long(s, []closure.Spot{{Node: 9}, {Node: -1}})) != 0 {
		t.Error("long")
	}
	loop := stack.New()
	loop.Put(1, 0, 0)
	loop.Put(0, 0, 1)
	loop.Put(1, 0, 2)
	From(a, loop, []closure.Spot{{Node: 2}}, 9)
	Long(loop, []closure.Spot{{Node: 2}})
	loop.Put(1, 0, 1)
	From(a, loop, []closure.Spot{{Node: 1}}, 9)
	Long(loop, []closure.Spot{{Node: 1}})
}

func TestOf(t *testing.T) {
	w, a := walk(t, "s: a; a: b;b: 'x' c? | 'y'; c: a a | b;")
	s, _ := sim.New(w, lots)
	o, _ := offer.Of(s, offer.Want{Rules: bits.Of(2)})
	if rows, more := Of(a, o, 2, 4); !same(rows, [][]int{{0, 1, 2}}) || more || cap(rows[0]) != 3 {
		t.Error(rows, more)
	}
	if rows, more := Of(a, o, 2, 0); len(rows) != 0 || !more {
		t.Error(rows, more)
	}
	if rows, more := Of(a, o, 1, 4); len(rows) != 0 || more {
		t.Error(rows, more)
	}
	s.Feed(0)
	o, _ = offer.Of(s, offer.Want{Rules: bits.Of(1, 2)})
	if rows, _ := Of(a, o, 1, 4); !same(rows, [][]int{{0, 1, 2, 3, 1}}) {
		t.Error(rows)
	}
	if rows, _ := Of(a, o, 2, 4); !same(rows, [][]int{{0, 1, 2, 3, 2}}) {
		t.Error(rows)
	}
	s, _ = sim.New(w, lots)
	o, _ = offer.Of(s, offer.Want{Rules: bits.Of(0, 2)})
	for most, n := range map[int]int{-1: 0, 0: 0, 1: 1, 64: 1} {
		if rows, more := Of(a, o, 0, most); len(rows) != n || more != (n == 0) || n == 1 && !same(rows, [][]int{{0}}) {
			t.Error(rows, more)
		}
	}
	if rows, more := Of(a, o, 2, 4); len(rows) != 0 || more {
		t.Error(rows)
	}
}

// TestTrees: the rows of an offer are those of nodes from the root on, of ways that are gone one by one.
func TestTrees(t *testing.T) {
	r := rand.New(rand.NewSource(13))
	for _, text := range []string{"s: a b c; a: 'x'?; b: a a d; d: e | 'y'; e: a; c: 'w' s | 'z'?;", "s: 'x' s | 'x' t | 'y'; t: s | 'y' s?;", "a: b 'x' | c c | ; b: 'y' a? | ; c: (b 'z')* 'x' | 'x' c;"} {
		w, a := walk(t, text)
		for range 200 {
			s, _ := sim.New(w, lots)
			var types []int
			for range r.Intn(6) {
				l := s.Offers().List()
				if len(l) == 0 {
					break
				}
				types = append(types, l[r.Intn(len(l))])
				s.Feed(types[len(types)-1])
			}
			want := bits.Of(1+r.Intn(len(a.Names)), 1+r.Intn(len(a.Names)))
			o, _ := offer.Of(s, offer.Want{Rules: want})
			for _, rule := range o.Rules.List() {
				all := trees(a, types, want, rule)
				rows, more := Of(a, o, rule, 64)
				if !same(rows, all[:min(64, len(all))]) || more != (len(all) > 64) || rows[0][0] != 0 {
					t.Fatal(text, types, rule, rows, all)
				}
			}
		}
	}
}

func trees(a atn.Atn, types []int, want bits.Set, rule int) [][]int {
	var rows [][]int
	type call struct{ ret, rule, place int }
	var on func(state, at int, open []call)
	on = func(state, at int, open []call) {
		if a.Stop[a.Owner[state]] == state && len(open) > 1 {
			last := len(open) - 1
			on(open[last].ret, at, open[:last:last])
		}
		for _, e := range a.Edges[state] {
			switch {
			case e.Kind == atn.Free:
				on(e.To, at, open)
			case e.Kind == atn.Token && at < len(types) && types[at] == e.Arg:
				on(e.To, at+1, open)
			case e.Kind == atn.Call:
				held := slices.ContainsFunc(open, func(c call) bool { return c.place == len(types) && want.Has(c.rule) })
				if at == len(types) && e.Arg == rule && !held {
					row := []int{rule}
					for i := len(open) - 1; i >= 0; i-- {
						row = append(row, open[i].rule)
					}
					rows = append(rows, row)
				}
				on(a.Start[e.Arg], at, append(open[:len(open):len(open)], call{e.To, e.Arg, at}))
			}
		}
	}
	on(a.Start[0], 0, []call{{-1, 0, 0}})
	slices.SortFunc(rows, func(x, y []int) int { return cmp.Or(cmp.Compare(len(x), len(y)), slices.Compare(x, y)) })
	rows = slices.CompactFunc(rows, func(x, y []int) bool { return slices.Equal(x, y) })
	for _, row := range rows {
		slices.Reverse(row)
	}
	return rows
}
