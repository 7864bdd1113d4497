package sim

import (
	"math"
	"math/rand"
	"testing"

	"souffleur/api"
	"souffleur/atn"
	"souffleur/bits"
	"souffleur/closure"
	"souffleur/gram"
	"souffleur/left"
	"souffleur/vocab"
)

const lots = 1 << 30

func walk(t *testing.T, s string) (*closure.Walk, atn.Atn) {
	t.Helper()
	g, stop := gram.Read(s)
	if stop.Code != api.OK {
		t.Fatal(s, stop)
	}
	a, _ := atn.Of(g, vocab.Of(g))
	a, code, _ := left.Ready(a)
	w, code2 := closure.New(a)
	if code != api.OK || code2 != api.OK {
		t.Fatal(s, code, code2)
	}
	return w, a
}

// rows tells all rows of types that a rule can be, of so many tokens at most, as texts; settled by the words of the chapter.
func rows(a atn.Atn, most int) map[string]bool {
	at := make([]map[string]bool, a.Long()) // of each state what leads from it to its rule's stop
	for s := range at {
		at[s] = map[string]bool{}
	}
	for r := range a.Names {
		at[a.Stop[r]][""] = true
	}
	for more := true; more; {
		more = false
		for s, l := range a.Edges {
			for _, e := range l {
				heads := map[string]bool{"": true}
				if e.Kind == atn.Token {
					heads = map[string]bool{string(rune('a' + e.Arg)): true}
				} else if e.Kind == atn.Call {
					heads = at[a.Start[e.Arg]]
				}
				for h := range heads {
					for tail := range at[e.To] {
						if x := h + tail; len(x) <= most && !at[s][x] {
							at[s][x], more = true, true
						}
					}
				}
			}
		}
	}
	return at[a.Start[0]]
}

func grammars() []string {
	return []string{
		"a: 'x' a?;",
		"a: b 'x' | c c | ; b: 'y' a? | ; c: (b 'z')* 'x' | 'x' c;",
		"s: t ('+' t)*; t: '(' s ')' | 'n' | ;",
		"s: 'x' s 'y' | 'x' s | ;",
		"s: a b c; a: 'x'?; b: a a d; d: e | 'y'; e: a; c: 'w' s | 'z'?;",
		"s: 'x' s 'x' | 'y'? ;",
	}
}

func TestSentences(t *testing.T) {
	const most = 6
	for _, text := range grammars() {
		w, a := walk(t, text)
		all := rows(a, most+3)
		begins := map[string]bool{}
		for x := range all {
			for i := range len(x) + 1 {
				begins[x[:i]] = true
			}
		}
		var look func(row string)
		look = func(row string) {
			s, code := New(w, lots)
			if code != api.OK {
				t.Fatal(code)
			}
			for _, c := range row {
				if ok, code := s.Feed(int(c - 'a')); !ok || code != api.OK {
					t.Fatal(text, row, code)
				}
			}
			if s.Long() != len(row) || s.Ends() != all[row] || s.Steps() <= len(row) || s.Nodes() < 1 || s.Steps() > Budget(a.Long(), len(row)) {
				t.Fatal(text, row, s.Ends())
			}
			for ty := -1; ty <= a.Types; ty++ {
				next := row + string(rune('a'+ty))
				if s.Offers().Has(ty) != begins[next] {
					t.Fatal(text, row, ty)
				}
				if begins[next] && len(next) <= 3 {
					look(next)
				}
				if !begins[next] {
					if ok, code := s.Feed(ty); ok || code != api.OK || s.Long() != len(row) {
						t.Fatal(text, next)
					}
				}
			}
		}
		look("")
	}
}

func TestNil(t *testing.T) {
	for _, w := range []*closure.Walk{nil, {}} {
		if s, code := New(w, lots); s != nil || code != api.ErrNil {
			t.Error(code)
		}
	}
	for _, s := range []*Sim{nil, {}} {
		ok, code := s.Feed(0)
		c, calls, code2 := s.Hold(nil)
		if ok || code != api.ErrNil || code2 != api.ErrNil || calls != nil || len(c.Spots) != 0 || s.Ends() || len(s.Offers()) != 0 || s.Long()+s.Steps()+s.Nodes() != 0 {
			t.Error(code)
		}
	}
}

func TestBudgetIsTold(t *testing.T) {
	w, _ := walk(t, grammars()[1])
	full, _ := New(w, lots)
	first := full.Steps()
	for _, most := range []int{math.MinInt, -1, 0, first - 1} {
		if s, code := New(w, most); s != nil || code != api.ErrBudget {
			t.Error(most, code)
		}
	}
	ty := full.Offers().Next(0)
	full.Feed(ty)
	for most := first; most <= full.Steps()+1; most++ {
		s, code := New(w, most)
		if code != api.OK || s.Steps() != first {
			t.Fatal(most, code)
		}
		nodes := s.Nodes()
		ok, code := s.Feed(ty)
		if most >= full.Steps() {
			if !ok || code != api.OK || s.Nodes() != full.Nodes() {
				t.Error(most, code)
			}
			continue
		}
		if ok || code != api.ErrBudget || s.Nodes() != nodes || s.Long() != 0 || s.Steps() != first || s.Ends() || len(s.Offers()) != 0 {
			t.Error(most, code)
		}
		ok, code = s.Feed(-1)
		c, calls, code2 := s.Hold(nil)
		if ok || code != api.ErrBudget || code2 != api.ErrBudget || calls != nil || len(c.Spots) != 0 {
			t.Error(most, code, code2)
		}
	}
}

func TestHold(t *testing.T) {
	r := rand.New(rand.NewSource(10))
	for _, text := range grammars() {
		w, _ := walk(t, text)
		s, _ := New(w, lots)
		for n := range 8 {
			nodes, steps := s.Nodes(), s.Steps()
			c, calls, code := s.Hold(nil)
			if code != api.OK || c.Ends != s.Ends() || !w.Offers(c).Same(s.Offers()) || calls.Long() != s.Nodes() {
				t.Fatal(text, n, code)
			}
			all := bits.Of(0, 1, 2, 3, 4, 5)
			c, calls, code = s.Hold(all)
			if code != api.OK || calls.Long() > s.Nodes() {
				t.Fatal(text, n, code)
			}
			for node := range calls.Long() {
				if calls.At(node) > n || node > 0 && calls.At(node) == n {
					t.Fatal("held calls are open", node)
				}
			}
			for _, h := range c.Hits {
				if !all.Has(h.Rule) || h.From.Node >= calls.Long() {
					t.Fatal(h)
				}
			}
			calls.Put(1, 1000, 0)
			if s.Nodes() != nodes || s.Steps() != steps {
				t.Fatal("changed")
			}
			types := s.Offers().List()
			if len(types) == 0 {
				break
			}
			s.Feed(types[r.Intn(len(types))])
		}
	}
}

func TestShared(t *testing.T) {
	w, _ := walk(t, "a: 'x' a?;")
	s, _ := New(w, lots)
	s.Offers()[0] = 0
	c, _, _ := s.Hold(nil)
	c.Spots[0].State = 77
	if !s.Offers().Has(0) {
		t.Error("shared")
	}
	if ok, code := s.Feed(0); !ok || code != api.OK || !s.Ends() || s.Offers().Count() != 1 {
		t.Error(code)
	}
}

func TestBudget(t *testing.T) {
	for _, c := range [][3]int{{0, 0, 0}, {1, 0, 2}, {3, 2, 3 * 10 * 3}, {-5, 7, 0}, {5, -7, 30}, {math.MaxInt, math.MaxInt, 1 << 40}, {1 << 15, 0, 1<<30 + 1<<15}, {math.MinInt, math.MinInt, 0}, {1 << 20, 31, 1 << 40}, {4000, 100, 4000 * (4000*101 + 1) * 101}} {
		if got := Budget(c[0], c[1]); got != c[2] {
			t.Error(c, got)
		}
	}
}
