package closure

import (
	"math"
	"math/rand"
	"slices"
	"testing"

	"souffleur/api"
	"souffleur/atn"
	"souffleur/bits"
	"souffleur/gram"
	"souffleur/left"
	"souffleur/stack"
	"souffleur/useful"
	"souffleur/vocab"
)

const lots = 1 << 20

func walk(t *testing.T, s string) (*Walk, atn.Atn) {
	t.Helper()
	g, stop := gram.Read(s)
	if stop.Code != api.OK {
		t.Fatal(s, stop)
	}
	a, _ := atn.Of(g, vocab.Of(g))
	a, code, _ := left.Ready(a)
	w, code2 := New(a)
	if code != api.OK || code2 != api.OK {
		t.Fatal(s, code, code2)
	}
	return w, a
}

func TestNew(t *testing.T) {
	for s, want := range map[string]api.Errno{"a: 'x';": api.OK, "a: a 'x' | 'y';": api.ErrArg, "a: a;": api.ErrArg, "a: (b)*; b: ;": api.ErrArg, "a: 'x' | b; b: 'x' b;": api.ErrArg} {
		g, _ := gram.Read(s)
		a, _ := atn.Of(g, vocab.Of(g))
		w, code := New(a)
		if code != want || (w != nil) != (want == api.OK) {
			t.Error(s, code)
		}
		if w != nil && !w.Atn().Same(a) {
			t.Error(s)
		}
	}
	w, a := walk(t, "a: 'x' | 'y' b; b: 'z';")
	before := a.Clone()
	w.Atn().Edges[0][0].To = 9
	w.Atn().Start[0] = 9
	a.Edges[0][0].Arg = 77
	if !w.Atn().Same(before) {
		t.Error("shared")
	}
}

func TestExample(t *testing.T) {
	w, a := walk(t, "a: b 'x'; b: 'y';")
	s := stack.New()
	c, code := w.Close(s, []Spot{{a.Start[0], 0}}, 0, nil, lots)
	if code != api.OK || !slices.Equal(c.Spots, []Spot{{a.Start[0], 0}, {a.Start[1], 1}}) || c.Ends || len(c.Hits) != 0 || c.Steps != 2 || s.Long() != 2 || s.Ret(1) != a.Edges[a.Start[0]][0].To {
		t.Error(c, code)
	}
	if l := w.Next(c, w.Offers(c).Next(0)); len(l) != 1 || l[0].Node != 1 || w.Offers(c).Count() != 1 {
		t.Error(l)
	}
	held, code := w.Close(stack.New(), []Spot{{a.Start[0], 0}}, 0, bits.Of(1), lots)
	if code != api.OK || len(held.Spots) != 1 || !slices.Equal(held.Hits, []Hit{{1, Spot{a.Start[0], 0}}}) || w.Offers(held).Count() != 0 {
		t.Error(held, code)
	}
}

func TestErrors(t *testing.T) {
	w, a := walk(t, "a: b 'x' | ; b: 'y' | ;")
	start := []Spot{{a.Start[0], 0}}
	for i, c := range []struct {
		w    *Walk
		s    *stack.Stack
		from []Spot
		at   int
		most int
		code api.Errno
	}{
		{nil, stack.New(), start, 0, lots, api.ErrNil}, {&Walk{}, stack.New(), start, 0, lots, api.ErrNil}, {w, nil, start, 0, lots, api.ErrNil}, {w, &stack.Stack{}, start, -1, 0, api.ErrNil},
		{w, stack.New(), []Spot{{a.Long(), 0}}, 0, lots, api.ErrArg}, {w, stack.New(), []Spot{{-1, 0}}, 0, lots, api.ErrArg}, {w, stack.New(), []Spot{{0, 1}}, 0, lots, api.ErrArg},
		{w, stack.New(), []Spot{{0, -1}}, 0, lots, api.ErrArg}, {w, stack.New(), start, -1, 0, api.ErrArg}, {w, stack.New(), []Spot{{math.MaxInt, math.MinInt}}, 0, lots, api.ErrArg},
		{w, stack.New(), start, 0, 0, api.ErrBudget}, {w, stack.New(), start, 0, math.MinInt, api.ErrBudget},
	} {
		got, code := c.w.Close(c.s, c.from, c.at, nil, c.most)
		if code != c.code || len(got.Spots) != 0 || got.Ends || len(got.Hits) != 0 || got.Steps != 0 {
			t.Error(i, code)
		}
	}
	all, _ := w.Close(stack.New(), start, math.MaxInt, nil, math.MaxInt)
	for most := range all.Steps + 2 {
		c, code := w.Close(stack.New(), start, 0, nil, most)
		if (code == api.ErrBudget) != (most < all.Steps) || code == api.OK && len(c.Spots) != len(all.Spots) {
			t.Error(most, code)
		}
	}
	if c, code := w.Close(stack.New(), nil, 0, nil, -1); code != api.OK || c.Steps != 0 {
		t.Error(code)
	}
	if len((*Walk)(nil).Offers(all)) != 0 || len((&Walk{}).Next(all, 0)) != 0 || (&Walk{}).Atn().Long() != 0 || (*Walk)(nil).Atn().Long() != 0 {
		t.Error("plain")
	}
	odd := Closed{Spots: []Spot{{-1, 0}, {a.Long(), 0}, {math.MaxInt, -7}}}
	if len(w.Offers(odd)) != 0 || len(w.Next(odd, 0)) != 0 {
		t.Error("odd")
	}
}

func TestBigStack(t *testing.T) {
	w, a := walk(t, "a: b 'x'; b: 'y';")
	s := stack.New()
	for i := range 1<<20 - 1 {
		s.Put(i, 9, 0)
	}
	if _, code := w.Close(s, []Spot{{a.Start[0], 0}}, 0, nil, lots); code != api.ErrBig {
		t.Error(code)
	}
	if _, code := w.Close(s, []Spot{{a.Start[0], 0}}, 9, nil, lots); code != api.OK {
		t.Error(code)
	}
}

// A stack that was made elsewhere may go anywhere, and back to what is no state.
func TestOddStack(t *testing.T) {
	w, a := walk(t, "a: b 'x' | ; b: 'y' | ;")
	s := stack.New()
	s.Put(math.MaxInt, 0, 0)
	s.Put(a.Long(), 0, 1)
	s.Put(a.Stop[0], 0, 2)
	s.Put(a.Stop[0], 0, 3)
	for n := range s.Long() {
		if _, code := w.Close(s, []Spot{{a.Stop[0], n}, {a.Stop[1], n}, {a.Start[0], n}}, 0, nil, lots); code != api.OK {
			t.Error(code)
		}
	}
}

// place is a node by what it is, whatever its number.
type place struct{ ret, at int }

type spot struct {
	state int
	place place
}

// slow settles what is come to by the words of the chapter.
func slow(a atn.Atn, from []spot, ups map[place]map[place]bool, at int, held bits.Set) (map[spot]bool, map[[2]spot]bool, bool) {
	empty := useful.Empty(a)
	come, hits, ends := map[spot]bool{}, map[[2]spot]bool{}, false
	for _, x := range from {
		come[x] = true
	}
	for more := true; more; {
		more = false
		add := func(x spot) {
			if !come[x] {
				come[x], more = true, true
			}
		}
		var l []spot
		for x := range come {
			l = append(l, x)
		}
		for _, x := range l {
			if a.Stop[a.Owner[x.state]] == x.state {
				ends = ends || x.place.ret < 0
				for up := range ups[x.place] {
					add(spot{x.place.ret, up})
				}
			}
			for _, e := range a.Edges[x.state] {
				switch {
				case e.Kind == atn.Free:
					add(spot{e.To, x.place})
				case e.Kind == atn.Call && held.Has(e.Arg):
					hits[[2]spot{{state: e.Arg}, x}] = true
					if empty[e.Arg] {
						add(spot{e.To, x.place})
					}
				case e.Kind == atn.Call:
					p := place{e.To, at}
					if ups[p] == nil {
						ups[p] = map[place]bool{}
					}
					if !ups[p][x.place] {
						ups[p][x.place], more = true, true
					}
					add(spot{a.Start[e.Arg], p})
				}
			}
		}
	}
	return come, hits, ends
}

func TestSentences(t *testing.T) {
	r := rand.New(rand.NewSource(9))
	for _, text := range []string{
		"a: b 'x' | c c | ; b: 'y' a? | ; c: (b 'z')* | 'x' c;",
		"s: e; e: t ('+' t)*; t: f ('*' f)*; f: '(' e ')' | 'n' | ;",
		"s: 'x' s 'y' | 'x' s | ;",
		"s: a b c; a: 'x'?; b: a a d; d: e | 'y'; e: a; c: 'w' s | 'z'?;",
	} {
		w, a := walk(t, text)
		for range 60 {
			var held bits.Set
			if r.Intn(2) == 0 {
				held = bits.Of(r.Intn(4), r.Intn(5))
			}
			s := stack.New()
			from := []Spot{{a.Start[0], 0}}
			bottom := place{-1, 0}
			slowFrom := []spot{{a.Start[0], bottom}}
			ups := map[place]map[place]bool{}
			for at := range 8 {
				c, code := w.Close(s, from, at, held, lots)
				if code != api.OK {
					t.Fatal(code)
				}
				come, hits, ends := slow(a, slowFrom, ups, at, held)
				same(t, s, c, come, hits, ends)
				again(t, w, s, c, at, held)
				types := w.Offers(c).List()
				if len(types) == 0 {
					break
				}
				ty := types[r.Intn(len(types))]
				from = w.Next(c, ty)
				slowFrom = nil
				for x := range come {
					for _, e := range a.Edges[x.state] {
						if y := (spot{e.To, x.place}); e.Kind == atn.Token && e.Arg == ty && !slices.Contains(slowFrom, y) {
							slowFrom = append(slowFrom, y)
						}
					}
				}
				if len(from) != len(slowFrom) {
					t.Fatal(from, slowFrom)
				}
			}
		}
	}
}

// TestManySpots: where there are many spots for few nodes, all is as where there are few.
func TestManySpots(t *testing.T) {
	w, a := walk(t, "s: 'x' s s | t; t: 'x' t s | ;")
	s := stack.New()
	from := []Spot{{a.Start[0], 0}}
	slowFrom := []spot{{a.Start[0], place{-1, 0}}}
	ups := map[place]map[place]bool{}
	most := 0
	for at := range 45 {
		c, code := w.Close(s, from, at, nil, lots)
		if code != api.OK {
			t.Fatal(code)
		}
		most = max(most, c.Steps)
		come, hits, ends := slow(a, slowFrom, ups, at, nil)
		same(t, s, c, come, hits, ends)
		again(t, w, s, c, at, nil)
		from, slowFrom = w.Next(c, 0), nil
		for x := range come {
			for _, e := range a.Edges[x.state] {
				if e.Kind == atn.Token {
					slowFrom = append(slowFrom, spot{e.To, x.place})
				}
			}
		}
	}
	if most < 2*many {
		t.Error(most)
	}
	if x, code := w.Close(s, from, 45, nil, most-5); code != api.ErrBudget || len(x.Spots) != 0 {
		t.Error(code)
	}
}

func same(t *testing.T, s *stack.Stack, c Closed, come map[spot]bool, hits map[[2]spot]bool, ends bool) {
	t.Helper()
	as := func(x Spot) spot { return spot{x.State, place{s.Ret(x.Node), s.At(x.Node)}} }
	if len(c.Spots) != len(come) || len(c.Hits) != len(hits) || c.Ends != ends || c.Steps != len(c.Spots) {
		t.Fatal(c, come, hits, ends)
	}
	for _, x := range c.Spots {
		if !come[as(x)] {
			t.Fatal(x)
		}
	}
	for _, h := range c.Hits {
		if !hits[[2]spot{{state: h.Rule}, as(h.From)}] {
			t.Fatal(h)
		}
	}
}

// again: what is come to, closed again, is all there is.
func again(t *testing.T, w *Walk, s *stack.Stack, c Closed, at int, held bits.Set) {
	t.Helper()
	nodes, links := s.Long(), s.Links()
	x, code := w.Close(s, c.Spots, at, held, lots)
	if code != api.OK || s.Long() != nodes || s.Links() != links || x.Ends != c.Ends || len(x.Hits) != len(c.Hits) || !slices.Equal(x.Spots, c.Spots) {
		t.Fatal(code, x, c)
	}
	seen := map[Spot]bool{}
	for _, y := range c.Spots {
		if seen[y] {
			t.Fatal("twice", y)
		}
		seen[y] = true
	}
	if d, _ := w.Close(s, slices.Concat(c.Spots, c.Spots), at, held, lots); len(d.Spots) != len(c.Spots) {
		t.Fatal("twice")
	}
}
