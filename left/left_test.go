package left

import (
	"math/rand"
	"slices"
	"testing"

	"souffleur/api"
	"souffleur/atn"
	"souffleur/gram"
	"souffleur/useful"
	"souffleur/vocab"
)

func of(t *testing.T, s string) atn.Atn {
	t.Helper()
	g, stop := gram.Read(s)
	if stop.Code != api.OK {
		t.Fatal(s, stop)
	}
	a, code := atn.Of(g, vocab.Of(g))
	if code != api.OK {
		t.Fatal(s, code)
	}
	return a
}

func TestCheck(t *testing.T) {
	for _, c := range []struct {
		s    string
		code api.Errno
		rule int
	}{
		{"a: b? a 'x' | 'y'; b: 'z';", api.ErrSelf, 0},
		{"a: 'x' a | 'y';", api.OK, -1},
		{"a: a;", api.ErrUseful, 0},
		{"a: b 'x'; b: b | b c; c: 'x';", api.ErrUseful, 0},
		{"a: ('x'?)*;", api.ErrLoop, 0},
		{"a: 'x' b; b: (c)+; c: 'y' | ;", api.ErrLoop, 1},
		{"a: 'x' b; b: c 'y'; c: d? b | 'z'; d: 'x';", api.ErrSelf, 1},
		{"a: 'x' b | 'x'; b: b 'y';", api.OK, -1},
		{"a: 'x'; b: b 'y' | 'z';", api.ErrSelf, 1},
		{"a: 'x'; b: (b 'y' | )+ 'z'; c: (()?)*;", api.ErrLoop, 1},
		{"a: 'x' | a; b: ()*;", api.ErrLoop, 1},
		{"a: (b 'x')* | b; b: 'y' a b?;", api.OK, -1},
		{"a: b a 'x' | 'q'; b: c c; c: 'z'?;", api.ErrSelf, 0},
		{"a: ;", api.OK, -1},
	} {
		a := of(t, c.s)
		before := a.Clone()
		code, rule := Check(a)
		x, code2, rule2 := Ready(a)
		if code != c.code || rule != c.rule || code2 != code || rule2 != rule {
			t.Error(c.s, code, rule)
		}
		if code == api.OK && !x.Same(useful.Trim(a)) || code != api.OK && !x.Same(atn.Atn{}) || !a.Same(before) {
			t.Error(c.s)
		}
	}
}

func TestCalls(t *testing.T) {
	a := of(t, "a: d? (b | c 'x' b)* e; b: 'x' a; c: | a; d: c c b; e: e;")
	want := [][]int{{1, 2, 3, 4}, nil, {0}, {1, 2}, {4}}
	got := Calls(a)
	if !slices.EqualFunc(got, want, func(x, y []int) bool { return slices.Equal(x, y) }) {
		t.Error(got)
	}
}

func TestNotRight(t *testing.T) {
	bad := of(t, "a: 'x';")
	bad.Stop[0] = 99
	for _, a := range []atn.Atn{{}, bad} {
		code, rule := Check(a)
		x, code2, rule2 := Ready(a)
		if len(Calls(a)) != 0 || Self(a) != -1 || Loop(a) != -1 || code != api.ErrArg || rule != -1 || code2 != api.ErrArg || rule2 != -1 || !x.Same(atn.Atn{}) {
			t.Error(a)
		}
	}
}

// random tells an automaton that may go anywhere.
func random(r *rand.Rand) atn.Atn {
	rules := 1 + r.Intn(4)
	a := atn.Atn{Types: 2, Names: make([]string, rules), Start: make([]int, rules), Stop: make([]int, rules)}
	for o := range rules {
		a.Start[o] = o
		a.Stop[o] = rules + r.Intn(3)*rules + o
	}
	for s := range 4 * rules {
		var l []atn.Edge
		for range r.Intn(3) {
			kind, arg := r.Intn(3), r.Intn(2)
			if kind == atn.Call {
				arg = r.Intn(rules)
			}
			l = append(l, atn.Edge{Kind: kind, Arg: arg, To: s%rules + rules*r.Intn(4)})
		}
		a.Owner = append(a.Owner, s%rules)
		a.Edges = append(a.Edges, l)
	}
	return a
}

func TestRandom(t *testing.T) {
	r := rand.New(rand.NewSource(6))
	for range 3000 {
		a := random(r)
		empty := useful.Empty(a)
		rules := len(a.Names)
		loop, self := -1, -1
		way := make([][]bool, rules)
		for i := range way {
			way[i] = make([]bool, rules)
			for _, s := range useful.Free(a, a.Start[i]) {
				for _, e := range a.Edges[s] {
					if e.Kind == atn.Call {
						way[i][e.Arg] = true
					}
				}
			}
			var want []int
			for k, ok := range way[i] {
				if ok {
					want = append(want, k)
				}
			}
			if !slices.Equal(Calls(a)[i], want) {
				t.Fatal(a, i)
			}
		}
		for k := range rules {
			for i := range rules {
				for j := range rules {
					way[i][j] = way[i][j] || way[i][k] && way[k][j]
				}
			}
		}
		for i := rules - 1; i >= 0; i-- {
			if way[i][i] {
				self = i
			}
			for s, l := range a.Edges {
				for _, e := range l {
					if a.Owner[s] == i && (e.Kind == atn.Free || e.Kind == atn.Call && empty[e.Arg]) && slices.Contains(useful.Free(a, e.To), s) {
						loop = i
					}
				}
			}
		}
		if Self(a) != self || Loop(a) != loop {
			t.Fatal(a, Self(a), self, Loop(a), loop)
		}
		if x, code, _ := Ready(a); code == api.OK && (Self(x) != -1 || Loop(x) != -1 || !useful.Trim(x).Same(x)) {
			t.Fatal(x)
		}
	}
}
