package offer

import (
	"math/rand"
	"slices"
	"testing"

	"souffleur/api"
	"souffleur/atn"
	"souffleur/bits"
	"souffleur/closure"
	"souffleur/gram"
	"souffleur/left"
	"souffleur/sim"
	"souffleur/vocab"
)

const lots = 1 << 30

func walk(t *testing.T, s string) (*closure.Walk, atn.Atn) {
	t.Helper()
	g, stop := gram.Read(s)
	if stop.Code != api.OK {
		t.Fatal(s, stop)
	}
	a, _ := atn.Of(g, vocab.Of(g))
	a, code, _ := left.Ready(a)
	w, code2 := closure.New(a)
	if code != api.OK || code2 != api.OK {
		t.Fatal(s, code, code2)
	}
	return w, a
}

// call is one that is open: where it goes back to, its rule, and the place where it begins.
type call struct{ ret, rule, place int }

// ways goes all ways through some types, one by one, each with its own open calls; behind them it tells of each type that comes next, and of each call, within which rules it is that begin there.
type ways struct {
	a     atn.Atn
	types []int
	token func(t int, within []int)
	rule  func(r int, within []int)
	end   func()
}

func (w *ways) go1(state, at int, open []call) {
	if w.a.Stop[w.a.Owner[state]] == state {
		if len(open) == 1 {
			if at == len(w.types) {
				w.end()
			}
		} else {
			last := open[len(open)-1]
			w.go1(last.ret, at, open[:len(open)-1:len(open)-1])
		}
	}
	var within []int
	for _, c := range open {
		if c.place == len(w.types) {
			within = append(within, c.rule)
		}
	}
	for _, e := range w.a.Edges[state] {
		switch e.Kind {
		case atn.Free:
			w.go1(e.To, at, open)
		case atn.Token:
			if at == len(w.types) {
				w.token(e.Arg, within)
			} else if w.types[at] == e.Arg {
				w.go1(e.To, at+1, open)
			}
		case atn.Call:
			if at == len(w.types) {
				w.rule(e.Arg, within)
			}
			w.go1(w.a.Start[e.Arg], at, append(open[:len(open):len(open)], call{e.To, e.Arg, at}))
		}
	}
}

func slow(a atn.Atn, types []int, w Want) Offer {
	var o Offer
	no := func(l []int) bool { return !slices.ContainsFunc(l, w.Rules.Has) }
	x := &ways{a: a, types: types}
	x.end = func() { o.End = !w.NoEnd }
	x.token = func(t int, within []int) {
		if no(within) && !w.Less.Has(t) {
			o.Types = o.Types.With(t)
		}
	}
	x.rule = func(r int, within []int) {
		if no(within) && w.Rules.Has(r) {
			o.Rules = o.Rules.With(r)
		}
	}
	if len(types) == 0 && w.Rules.Has(0) {
		o.Rules = bits.Of(0)
	}
	x.go1(a.Start[0], 0, []call{{-1, 0, 0}})
	return o
}

func grammars() []string {
	return []string{
		"a: b 'x'; b: 'y';",
		"a: b 'x' | c c | ; b: 'y' a? | ; c: (b 'z')* 'x' | 'x' c;",
		"s: t ('+' t)*; t: '(' s ')' | 'n' | u u; u: 'm' | ;",
		"s: 'x' s 'y' | 'x' s | ;",
		"s: a b c; a: 'x'?; b: a a d; d: e | 'y'; e: a; c: 'w' s | 'z'?;",
		"s: a* 'q'; a: b 'x' | b 'y' s? ; b: c | d | 'w'; c: 'u' d; d: 'v'?;",
	}
}

func TestRandom(t *testing.T) {
	r := rand.New(rand.NewSource(11))
	for _, text := range grammars() {
		w, a := walk(t, text)
		for range 400 {
			s, _ := sim.New(w, lots)
			var types []int
			for range r.Intn(6) {
				l := s.Offers().List()
				if len(l) == 0 {
					break
				}
				types = append(types, l[r.Intn(len(l))])
				s.Feed(types[len(types)-1])
			}
			want := Want{NoEnd: r.Intn(4) == 0}
			for range r.Intn(4) {
				want.Rules = want.Rules.With(r.Intn(len(a.Names) + 2))
			}
			for range r.Intn(3) {
				want.Less = want.Less.With(r.Intn(a.Types + 1))
			}
			o, code := Of(s, want)
			if x := slow(a, types, want); code != api.OK || !o.Same(x) || !x.Same(o) {
				t.Fatal(text, types, want, o, x)
			}
			hits(t, a, s, o, want)
			laws(t, s, o, want)
		}
	}
}

func hits(t *testing.T, a atn.Atn, s *sim.Sim, o Offer, w Want) {
	t.Helper()
	if s.Long() == 0 && w.Rules.Has(0) {
		if len(o.Hits) != 0 || o.Calls != nil || o.Types.Count() != 0 || !o.Rules.Same(bits.Of(0)) {
			t.Fatal(o)
		}
		return
	}
	c, calls, _ := s.Hold(w.Rules)
	if o.Calls == nil || o.Calls.Long() != calls.Long() || len(o.Hits) != len(c.Hits) {
		t.Fatal(o)
	}
	for i, h := range o.Hits {
		if !slices.Contains(c.Hits, h) || slices.Contains(o.Hits[:i], h) || !o.Rules.Has(h.Rule) || !slices.ContainsFunc(a.Edges[h.From.State], func(e atn.Edge) bool { return e.Kind == atn.Call && e.Arg == h.Rule }) {
			t.Fatal(o)
		}
	}
}

func laws(t *testing.T, s *sim.Sim, o Offer, w Want) {
	t.Helper()
	all, _ := Of(s, Want{})
	if !all.Types.Same(s.Offers()) || all.End != s.Ends() || all.Rules.Count() != 0 {
		t.Fatal(all)
	}
	more, _ := Of(s, Want{Rules: w.Rules.With(1), Less: w.Less})
	if more.Types.Less(o.Types).Count() != 0 {
		t.Fatal(more, o)
	}
	less, _ := Of(s, Want{Rules: w.Rules, Less: w.Less.With(0), NoEnd: w.NoEnd})
	if !less.Types.Same(o.Types.Without(0)) || !less.Rules.Same(o.Rules) || less.End != o.End {
		t.Fatal(less, o)
	}
}

func TestErrors(t *testing.T) {
	for _, s := range []*sim.Sim{nil, {}} {
		if o, code := Of(s, Want{Rules: bits.Of(0)}); code != api.ErrNil || o.Count() != 0 || o.Calls != nil {
			t.Error(code)
		}
	}
	w, _ := walk(t, grammars()[0])
	full, _ := sim.New(w, lots)
	s, _ := sim.New(w, full.Steps())
	s.Feed(s.Offers().Next(0))
	if o, code := Of(s, Want{Rules: bits.Of(0)}); code != api.ErrBudget || o.Count() != 0 || o.Calls != nil {
		t.Error(code)
	}
}

func TestExampleAndCount(t *testing.T) {
	w, a := walk(t, "a: b 'x'; b: 'y';")
	s, _ := sim.New(w, lots)
	o, code := Of(s, Want{Rules: bits.Of(1, 70, 65535)})
	if code != api.OK || !o.Rules.Same(bits.Of(1)) || o.Types.Count() != 0 || o.Count() != 1 || !slices.Equal(o.Hits, []closure.Hit{{Rule: 1, From: closure.Spot{State: a.Start[0]}}}) {
		t.Error(o, code)
	}
	x := Offer{Types: bits.Of(1, 2), End: true, Rules: bits.Of(7)}
	if x.Count() != 4 || (Offer{}).Count() != 0 || !x.Same(Offer{Types: bits.Set{6, 0}, End: true, Rules: bits.Of(7), Hits: o.Hits}) {
		t.Error(x.Count())
	}
	for _, y := range []Offer{{}, {Types: bits.Of(1, 2), Rules: bits.Of(7)}, {Types: bits.Of(1), End: true, Rules: bits.Of(7)}, {Types: bits.Of(1, 2), End: true}} {
		if x.Same(y) || y.Same(x) {
			t.Error(y)
		}
	}
}
