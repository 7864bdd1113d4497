package useful

import (
	"math"
	"math/rand"
	"slices"
	"testing"

	"souffleur/api"
	"souffleur/atn"
	"souffleur/gram"
	"souffleur/vocab"
)

func of(t *testing.T, s string) atn.Atn {
	t.Helper()
	g, stop := gram.Read(s)
	if stop.Code != api.OK {
		t.Fatal(s, stop)
	}
	a, code := atn.Of(g, vocab.Of(g))
	if code != api.OK {
		t.Fatal(s, code)
	}
	return a
}

func TestRules(t *testing.T) {
	for _, c := range []struct {
		s                    string
		some, empty, reached []bool
	}{
		{"a: 'x' a | b; b: b;", []bool{false, false}, []bool{false, false}, []bool{true, true}},
		{"a: 'x' a | ;", []bool{true}, []bool{true}, []bool{true}},
		{"a: b c; b: 'x'?; c: b b; d: a;", []bool{true, true, true, true}, []bool{true, true, true, true}, []bool{true, true, true, false}},
		{"a: b | c 'x'; b: b b | ; c: c | d; d: 'y' c;", []bool{true, true, false, false}, []bool{true, true, false, false}, []bool{true, true, true, true}},
		{"a: 'x'*; b: 'x'+; c: (b|a)+;", []bool{true, true, true}, []bool{true, false, true}, []bool{true, false, false}},
	} {
		a := of(t, c.s)
		if !slices.Equal(Some(a), c.some) || !slices.Equal(Empty(a), c.empty) || !slices.Equal(Reached(a), c.reached) {
			t.Error(c.s, Some(a), Empty(a), Reached(a))
		}
	}
}

// What is not come to does not call.
func TestReachedByStatesThatAreComeTo(t *testing.T) {
	a := of(t, "a: 'x' b; b: 'y';")
	a.Edges[a.Start[0]] = nil
	if !slices.Equal(Reached(a), []bool{true, false}) {
		t.Error(Reached(a))
	}
}

func TestTrim(t *testing.T) {
	a := of(t, "a: 'x' b 'y' | 'z' | 'w' c; b: 'x' b; c: ;")
	before := a.Clone()
	x := Trim(a)
	if !a.Same(before) || !x.Right() || x.Long() != a.Long() || x.Count(atn.Call) != 1 || x.Count(atn.Token) != 2 {
		t.Error(x)
	}
	if n := len(x.Edges[a.Start[1]]); n != 0 {
		t.Error(x)
	}
	b := of(t, "a: 'x' (b | 'y'?)* ; b: a | 'z'+;")
	if !Trim(b).Same(b) {
		t.Error("trimmed")
	}
}

// random tells an automaton that may go anywhere.
func random(r *rand.Rand) atn.Atn {
	rules := 1 + r.Intn(4)
	a := atn.Atn{Types: 2, Names: make([]string, rules)}
	for o := range rules {
		first := len(a.Owner)
		n := 1 + r.Intn(5)
		for range n {
			var l []atn.Edge
			for range r.Intn(3) {
				kind := r.Intn(3)
				arg := r.Intn(2)
				if kind == atn.Call {
					arg = r.Intn(rules)
				}
				l = append(l, atn.Edge{Kind: kind, Arg: arg, To: first + r.Intn(n)})
			}
			a.Owner = append(a.Owner, o)
			a.Edges = append(a.Edges, l)
		}
		a.Start = append(a.Start, first+r.Intn(n))
		a.Stop = append(a.Stop, first+r.Intn(n))
	}
	return a
}

// slow settles all by their words, pair by pair.
func slow(a atn.Atn) (ends []bool, way [][]bool, come [][]bool) {
	n := a.Long()
	ends = make([]bool, n)
	way, come = make([][]bool, n), make([][]bool, n)
	for i := range n {
		way[i], come[i] = make([]bool, n), make([]bool, n)
		way[i][i], come[i][i] = true, true
	}
	for range n*n + 1 {
		for s := range n {
			ends[s] = ends[s] || a.Stop[a.Owner[s]] == s
			for _, e := range a.Edges[s] {
				call := e.Kind == atn.Call
				ends[s] = ends[s] || ends[e.To] && (!call || ends[a.Start[e.Arg]])
				for to := range n {
					free := e.Kind == atn.Free || call && way[a.Start[e.Arg]][a.Stop[e.Arg]]
					way[s][to] = way[s][to] || free && way[e.To][to]
					come[s][to] = come[s][to] || come[e.To][to]
				}
			}
		}
	}
	return
}

func TestRandom(t *testing.T) {
	r := rand.New(rand.NewSource(5))
	for range 1500 {
		a := random(r)
		if !a.Right() {
			t.Fatal(a)
		}
		ends, way, come := slow(a)
		if !slices.Equal(Ends(a), ends) {
			t.Fatal(a, ends, Ends(a))
		}
		empty, some := Empty(a), Some(a)
		for i := range a.Names {
			if empty[i] != way[a.Start[i]][a.Stop[i]] || some[i] != ends[a.Start[i]] {
				t.Fatal(a, i)
			}
		}
		for s := range a.Long() {
			var want []int
			for to, ok := range way[s] {
				if ok {
					want = append(want, to)
				}
			}
			if got := Free(a, s); !slices.Equal(got, want) {
				t.Fatal(a, s, got, want)
			}
		}
		trimmed(t, a, ends, come)
	}
}

func trimmed(t *testing.T, a atn.Atn, ends []bool, come [][]bool) {
	x := Trim(a)
	if !x.Right() || !Trim(x).Same(x) || !slices.Equal(Some(x), Some(a)) || !slices.Equal(Empty(x), emptyOf(a)) {
		t.Fatal(a, x)
	}
	_, _, left := slow(x)
	for s, l := range a.Edges {
		var want []atn.Edge
		for _, e := range l {
			if ends[e.To] && (e.Kind != atn.Call || ends[a.Start[e.Arg]]) && left[a.Start[a.Owner[s]]][s] {
				want = append(want, e)
			}
		}
		if !slices.Equal(x.Edges[s], want) {
			t.Fatal(a, x, s)
		}
	}
	for i, start := range x.Start {
		for s := range x.Long() {
			if left[start][s] && ends[start] && !Ends(x)[s] {
				t.Fatal(a, x, i, s)
			}
		}
	}
	reached := make([]bool, len(a.Names))
	reached[0] = true
	for range a.Names {
		for s, l := range a.Edges {
			for _, e := range l {
				if e.Kind == atn.Call && reached[a.Owner[s]] && come[a.Start[a.Owner[s]]][s] {
					reached[e.Arg] = true
				}
			}
		}
	}
	if !slices.Equal(Reached(a), reached) {
		t.Fatal(a, reached)
	}
}

// emptyOf: a rule that may be of no tokens ends, so that trimming takes no way from it.
func emptyOf(a atn.Atn) []bool { return Empty(a) }

func TestNotRight(t *testing.T) {
	a := of(t, "a: 'x';")
	a.Owner[1] = 5
	for _, x := range []atn.Atn{{}, a} {
		if len(Ends(x)) != 0 || len(Some(x)) != 0 || len(Empty(x)) != 0 || len(Reached(x)) != 0 || len(Free(x, 0)) != 0 || !Trim(x).Same(atn.Atn{}) {
			t.Error(x)
		}
	}
	a.Owner[1] = 0
	for _, s := range []int{-1, 3, math.MaxInt, math.MinInt} {
		if len(Free(a, s)) != 0 {
			t.Error(s)
		}
	}
}
