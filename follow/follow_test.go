package follow

import (
	"math"
	"math/rand"
	"slices"
	"testing"

	"souffleur/api"
	"souffleur/atn"
	"souffleur/bits"
	"souffleur/gram"
	"souffleur/useful"
	"souffleur/vocab"
)

func of(t *testing.T, s string) (atn.Atn, vocab.Vocab) {
	t.Helper()
	g, stop := gram.Read(s)
	if stop.Code != api.OK {
		t.Fatal(s, stop)
	}
	v := vocab.Of(g)
	a, code := atn.Of(g, v)
	if code != api.OK {
		t.Fatal(s, code)
	}
	return a, v
}

func names(v vocab.Vocab, s bits.Set) string {
	out := ""
	for _, t := range s.List() {
		out += v.Types[t].Text
	}
	return out
}

func TestOf(t *testing.T) {
	for _, c := range []struct {
		s            string
		first, after []string
		end          []bool
	}{
		{"a: b 'x'; b: 'y' | ;", []string{"xy", "y"}, []string{"", "x"}, []bool{true, false}},
		{"a: 'w' b 'x' | b; b: c c; c: 'y'? ; d: b 'z';", []string{"wy", "y", "y", "yz"}, []string{"", "x", "xy", ""}, []bool{true, true, true, false}},
		{"a: 'x' a | b; b: 'y' b;", []string{"xy", "y"}, []string{"", ""}, []bool{true, true}},
		{"a: (b 'x')* 'z'; b: 'y' a?;", []string{"yz", "y"}, []string{"x", "x"}, []bool{true, false}},
	} {
		a, v := of(t, c.s)
		f := Of(a)
		for r := range a.Names {
			if len(names(v, f.First[r])) != len(c.first[r]) || len(names(v, f.After[r])) != len(c.after[r]) || f.End[r] != c.end[r] {
				t.Error(c.s, r, names(v, f.First[r]), names(v, f.After[r]), f.End[r])
			}
			for _, x := range c.first[r] {
				if !f.First[r].Has(v.Literal(string(x))) {
					t.Error(c.s, r, string(x))
				}
			}
			for _, x := range c.after[r] {
				if !f.After[r].Has(v.Literal(string(x))) {
					t.Error(c.s, r, string(x))
				}
			}
		}
		if !slices.Equal(f.Empty, useful.Empty(a)) {
			t.Error(c.s)
		}
	}
}

func TestStates(t *testing.T) {
	a, v := of(t, "a: b 'x'; b: 'y' | ;")
	f := Of(a)
	for s := range a.Long() {
		local, stops := f.Local(a, s)
		next, end := f.Next(a, s)
		wantNext, wantEnd := local, false
		if stops {
			wantNext, wantEnd = local.Or(f.After[a.Owner[s]]), f.End[a.Owner[s]]
		}
		if stops != slices.Contains(useful.Free(a, s), a.Stop[a.Owner[s]]) || !next.Same(wantNext) || end != wantEnd {
			t.Error(s)
		}
	}
	if l, stops := f.Local(a, a.Start[1]); names(v, l) != "y" || !stops {
		t.Error(names(v, l))
	}
	if l, end := f.Next(a, a.Stop[1]); names(v, l) != "x" || end {
		t.Error(names(v, l))
	}
	if l, end := f.Next(a, a.Stop[0]); len(l) != 0 || !end {
		t.Error(names(v, l))
	}
	bad := a.Clone()
	bad.Names = nil
	for _, s := range []int{-1, a.Long(), math.MaxInt, math.MinInt} {
		l, ok := f.Local(a, s)
		n, end := f.Next(a, s)
		if len(l) != 0 || ok || len(n) != 0 || end {
			t.Error(s)
		}
	}
	for _, x := range []Follow{{}, Of(bad), Of(atn.Atn{})} {
		l, ok := x.Local(a, 0)
		n, end := x.Next(a, 0)
		if len(x.First) != 0 || len(x.Empty) != 0 || len(x.After) != 0 || len(x.End) != 0 || len(l) != 0 || ok || len(n) != 0 || end {
			t.Error(x)
		}
	}
	if l, ok := f.Local(bad, 0); len(l) != 0 || ok {
		t.Error("not right")
	}
}

func random(r *rand.Rand) atn.Atn {
	rules := 1 + r.Intn(4)
	a := atn.Atn{Types: 5, Names: make([]string, rules), Start: make([]int, rules), Stop: make([]int, rules)}
	for o := range rules {
		a.Start[o] = o
		a.Stop[o] = rules + o
	}
	for s := range 4 * rules {
		var l []atn.Edge
		for range r.Intn(3) {
			kind, arg := r.Intn(3), r.Intn(5)
			if kind == atn.Call {
				arg = r.Intn(rules)
			}
			l = append(l, atn.Edge{Kind: kind, Arg: arg, To: s%rules + rules*r.Intn(4)})
		}
		a.Owner = append(a.Owner, s%rules)
		a.Edges = append(a.Edges, l)
	}
	return a
}

// slowLocal settles what may come first by useful's Free.
func slowLocal(a atn.Atn, first []bits.Set, s int) bits.Set {
	var out bits.Set
	for _, x := range useful.Free(a, s) {
		for _, e := range a.Edges[x] {
			if e.Kind == atn.Token {
				out = out.With(e.Arg)
			} else if e.Kind == atn.Call {
				out = out.Or(first[e.Arg])
			}
		}
	}
	return out
}

func TestRandom(t *testing.T) {
	r := rand.New(rand.NewSource(7))
	for range 1000 {
		a := random(r)
		f := Of(a)
		rules := len(a.Names)
		first, after, end := make([]bits.Set, rules), make([]bits.Set, rules), make([]bool, rules)
		for range rules + 1 {
			for i := range rules {
				first[i] = slowLocal(a, first, a.Start[i])
			}
		}
		end[0] = true
		reached, come := useful.Reached(a), comeTo(a)
		for range rules + 1 {
			for s, l := range a.Edges {
				o := a.Owner[s]
				for _, e := range l {
					if e.Kind != atn.Call || !reached[o] || !come[s] {
						continue
					}
					after[e.Arg] = after[e.Arg].Or(slowLocal(a, first, e.To))
					if slices.Contains(useful.Free(a, e.To), a.Stop[o]) {
						after[e.Arg] = after[e.Arg].Or(after[o])
						end[e.Arg] = end[e.Arg] || end[o]
					}
				}
			}
		}
		for i := range rules {
			if !f.First[i].Same(first[i]) || !f.After[i].Same(after[i]) || f.End[i] != end[i] {
				t.Fatal(a, i, f)
			}
		}
		for s := range a.Long() {
			l, _ := f.Local(a, s)
			if !l.Same(slowLocal(a, first, s)) {
				t.Fatal(a, s)
			}
		}
	}
}
