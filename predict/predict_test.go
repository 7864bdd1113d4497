package predict

import (
	"math"
	"math/rand"
	"slices"
	"testing"

	"souffleur/api"
	"souffleur/atn"
	"souffleur/closure"
	"souffleur/gram"
	"souffleur/left"
	"souffleur/stack"
	"souffleur/vocab"
)

const lots = 1 << 30

func walk(t *testing.T, s string) (*closure.Walk, atn.Atn) {
	t.Helper()
	g, stop := gram.Read(s)
	if stop.Code != api.OK {
		t.Fatal(s, stop)
	}
	a, _ := atn.Of(g, vocab.Of(g))
	a, code, _ := left.Ready(a)
	w, code2 := closure.New(a)
	if code != api.OK || code2 != api.OK {
		t.Fatal(s, code, code2)
	}
	return w, a
}

// slow goes all ways from a spot, edge by edge.
func slow(a atn.Atn, state int, rets, types []int, whole bool) bool {
	if len(types) == 0 && !whole {
		return true
	}
	if a.Stop[a.Owner[state]] == state {
		if n := len(rets); n > 0 && slow(a, rets[n-1], rets[:n-1:n-1], types, whole) || n == 0 && len(types) == 0 {
			return true
		}
	}
	for _, e := range a.Edges[state] {
		if slowEdge(a, e, rets, types, whole) {
			return true
		}
	}
	return false
}

func slowEdge(a atn.Atn, e atn.Edge, rets, types []int, whole bool) bool {
	switch e.Kind {
	case atn.Free:
		return slow(a, e.To, rets, types, whole)
	case atn.Token:
		return len(types) > 0 && types[0] == e.Arg && slow(a, e.To, rets, types[1:], whole)
	}
	return slow(a, a.Start[e.Arg], append(rets[:len(rets):len(rets)], e.To), types, whole)
}

// steps counts what Ahead takes by the words of the chapter.
func steps(w *closure.Walk, s Spot, types []int) int {
	calls := stack.New()
	node := 0
	for i, ret := range s.Rets {
		node, _, _, _ = calls.Put(ret, i, node)
	}
	n := 0
	from := []closure.Spot{{State: s.State, Node: node}}
	for i := 0; ; i++ {
		c, _ := w.Close(calls, from, len(s.Rets)+i, nil, lots)
		n += c.Steps
		if i == len(types) {
			return n
		}
		if from = w.Next(c, types[i]); len(from) == 0 {
			return n
		}
	}
}

func TestExample(t *testing.T) {
	w, a := walk(t, "a: 'x' 'y' | 'x' 'z';")
	choice := slices.IndexFunc(a.Edges, func(l []atn.Edge) bool { return len(l) > 1 })
	for _, c := range []struct {
		types []int
		whole bool
		want  int
	}{{[]int{0, 2}, true, 1}, {[]int{0, 2}, false, 1}, {[]int{0, 1}, true, 0}, {[]int{0}, false, 0}, {[]int{0}, true, -1}, {nil, false, 0}, {nil, true, -1}, {[]int{2}, false, -1}, {[]int{0, 1, 1}, false, -1}, {[]int{-1}, false, -1}} {
		if got, code := Choose(w, Spot{State: choice}, c.types, c.whole, lots); got != c.want || code != api.OK {
			t.Error(c, got, code)
		}
	}
}

func TestRandom(t *testing.T) {
	r := rand.New(rand.NewSource(14))
	for _, text := range []string{
		"a: 'x' a | 'x' | b 'y'; b: 'x' 'z'* | ;",
		"s: t ('+' t)*; t: '(' s ')' | 'n' | u u; u: 'm' | ;",
		"s: 'x' s 'y' | 'x' s | ;",
		"s: a b c; a: 'x'?; b: a a d; d: e | 'y'; e: a; c: 'w' s | 'z'?;",
	} {
		w, a := walk(t, text)
		for range 1500 {
			s := Spot{State: r.Intn(a.Long())}
			for range r.Intn(4) {
				s.Rets = append(s.Rets, r.Intn(a.Long()))
			}
			var types []int
			for range r.Intn(5) {
				types = append(types, r.Intn(a.Types+1))
			}
			whole := r.Intn(2) == 0
			want := slow(a, s.State, s.Rets, types, whole)
			before := slices.Clone(s.Rets)
			got, code := Ahead(w, s, types, whole, lots)
			if got != want || code != api.OK || !slices.Equal(s.Rets, before) {
				t.Fatal(text, s, types, whole, got)
			}
			need := steps(w, s, types)
			if ok, code := Ahead(w, s, types, whole, need); ok != want || code != api.OK {
				t.Fatal(text, s, types, code)
			}
			if ok, code := Ahead(w, s, types, whole, need-1); ok || code != api.ErrBudget {
				t.Fatal(text, s, types, code)
			}
			edges(t, w, a, s, types, whole, want)
		}
	}
}

func edges(t *testing.T, w *closure.Walk, a atn.Atn, s Spot, types []int, whole, ahead bool) {
	t.Helper()
	first, some := -1, false
	for i, e := range a.Edges[s.State] {
		want := slowEdge(a, e, s.Rets, types, whole)
		if got, code := Edge(w, s, i, types, whole, lots); got != want || code != api.OK {
			t.Fatal(s, i, types, whole, got)
		}
		need := 0
		switch {
		case e.Kind == atn.Free:
			need = steps(w, Spot{e.To, s.Rets}, types)
		case e.Kind == atn.Call:
			need = steps(w, Spot{a.Start[e.Arg], append(slices.Clone(s.Rets), e.To)}, types)
		case len(types) > 0 && types[0] == e.Arg:
			need = steps(w, Spot{e.To, s.Rets}, types[1:])
		}
		if got, code := Edge(w, s, i, types, whole, need); got != want || code != api.OK {
			t.Fatal(s, i, need, code)
		}
		if _, code := Edge(w, s, i, types, whole, need-1); (code == api.ErrBudget) != (need > 0) {
			t.Fatal(s, i, need, code)
		}
		if want && first < 0 {
			first = i
		}
		some = some || want
	}
	if got, code := Choose(w, s, types, whole, lots); got != first || code != api.OK {
		t.Fatal(s, types, whole, got, first)
	}
	if len(types) > 0 && a.Stop[a.Owner[s.State]] != s.State && some != ahead {
		t.Fatal(s, types, whole)
	}
}

func TestErrors(t *testing.T) {
	w, a := walk(t, "a: 'x' 'y' | 'x' 'z';")
	choice := slices.IndexFunc(a.Edges, func(l []atn.Edge) bool { return len(l) > 1 })
	all := func(w *closure.Walk, s Spot, want api.Errno) {
		t.Helper()
		ok, code := Ahead(w, s, nil, false, lots)
		ok2, code2 := Edge(w, s, 0, nil, false, lots)
		n, code3 := Choose(w, s, nil, false, lots)
		if ok || ok2 || n != 0 || code != want || code2 != want || code3 != want {
			t.Error(s, code, code2, code3, n)
		}
	}
	for _, x := range []*closure.Walk{nil, {}} {
		all(x, Spot{State: -1}, api.ErrNil)
	}
	for _, s := range []Spot{{State: -1}, {State: a.Long()}, {State: math.MaxInt}, {Rets: []int{-1}}, {Rets: []int{0, a.Long()}}, {Rets: []int{math.MinInt, 0}}} {
		all(w, s, api.ErrArg)
	}
	for _, edge := range []int{-1, 2, math.MaxInt, math.MinInt} {
		if ok, code := Edge(w, Spot{State: choice}, edge, nil, false, lots); ok || code != api.ErrArg {
			t.Error(edge, code)
		}
	}
	all2 := func(most int, want int, code api.Errno) {
		t.Helper()
		if n, c := Choose(w, Spot{State: choice}, []int{0, 2}, true, most); n != want || c != code {
			t.Error(most, n, c)
		}
	}
	// The first edge ends early, and takes fewer steps than the second one.
	b := a.Edges[choice]
	first := steps(w, Spot{State: b[0].To}, []int{0, 2})
	second := steps(w, Spot{State: b[1].To}, []int{0, 2})
	all2(first-1, 0, api.ErrBudget)
	all2(second-1, 0, api.ErrBudget)
	all2(second, 1, api.OK)
	all2(-5, 0, api.ErrBudget)
	if first >= second {
		t.Error(first, second)
	}
}
