package atn

import (
	"math"
	"slices"
	"strings"
	"testing"

	"souffleur/api"
	"souffleur/gram"
	"souffleur/vocab"
)

func of(t *testing.T, s string) Atn {
	t.Helper()
	g, stop := gram.Read(s)
	if stop.Code != api.OK {
		t.Fatal(s, stop)
	}
	a, code := Of(g, vocab.Of(g))
	if code != api.OK {
		t.Fatal(s, code)
	}
	return a
}

func TestOf(t *testing.T) {
	free := func(to int) Edge { return Edge{Free, 0, to} }
	for s, want := range map[string]Atn{
		"a: 'x';": {[]string{"a"}, []int{0}, []int{1}, []int{0, 0, 0}, [][]Edge{{{Token, 0, 2}}, nil, {free(1)}}, 1},
		"a: ;":    {[]string{"a"}, []int{0}, []int{1}, []int{0, 0}, [][]Edge{{free(1)}, nil}, 0},
		"a: A b; A: 'x'; b: | a;": {[]string{"a", "b"}, []int{0, 4}, []int{1, 5}, []int{0, 0, 0, 0, 1, 1, 1, 1, 1, 1, 1},
			[][]Edge{{{Token, 0, 2}}, nil, {{Call, 1, 3}}, {free(1)}, {free(6)}, nil, {free(8), free(9)}, {free(5)}, {free(7)}, {{Call, 0, 10}}, {free(7)}}, 1},
		"a: 'x'? 'y';": {[]string{"a"}, []int{0}, []int{1}, make([]int, 7), [][]Edge{{free(2)}, nil, {free(4), free(3)}, {{Token, 1, 6}}, {{Token, 0, 5}}, {free(3)}, {free(1)}}, 2},
		"a: 'x'*;":     {[]string{"a"}, []int{0}, []int{1}, make([]int, 6), [][]Edge{{free(2)}, nil, {free(4), free(3)}, {free(1)}, {{Token, 0, 5}}, {free(2)}}, 1},
		"a: 'x'+;":     {[]string{"a"}, []int{0}, []int{1}, make([]int, 6), [][]Edge{{free(2)}, nil, {{Token, 0, 3}}, {free(4)}, {free(2), free(5)}, {free(1)}}, 1},
	} {
		if a := of(t, s); !a.Same(want) || !a.Right() {
			t.Errorf("%s: %v", s, a)
		}
	}
}

func TestRefuses(t *testing.T) {
	g, _ := gram.Read("a: 'x';")
	bad, _ := gram.Read("a: b;")
	if a, code := Of(g, vocab.Vocab{}); code != api.ErrArg || a.Long() != 0 {
		t.Error(code)
	}
	for _, x := range []gram.Grammar{bad, {}} {
		if a, code := Of(x, vocab.Of(x)); code != api.ErrArg || a.Long() != 0 {
			t.Error(code)
		}
	}
	most := "a: " + strings.Repeat("'x' ", api.MaxStates-2-2) + "; b: ;"
	if a := of(t, most); a.Long() != api.MaxStates {
		t.Error(a.Long())
	}
	for _, s := range []string{strings.Replace(most, "b: ;", "b: 'x';", 1), "a: " + strings.Repeat("'x'?", 1000) + ";", "a: " + strings.Repeat("b|", 1998) + "; b: ;"} {
		g, stop := gram.Read(s)
		if a, code := Of(g, vocab.Of(g)); code != api.ErrBig || a.Long() != 0 || stop.Code != api.OK {
			t.Error(code, stop)
		}
	}
}

func TestOddGrammars(t *testing.T) {
	g := gram.Grammar{Nodes: []gram.Node{{Kind: gram.Seq}}}
	for i := range 200 {
		g.Nodes = append(g.Nodes, gram.Node{Kind: gram.Seq, Kids: []int{i, i}})
	}
	g.Rules = []gram.Rule{{Name: "a", Root: 200}}
	if a, code := Of(g, vocab.Of(g)); code != api.OK || a.Long() != 2 {
		t.Error(code)
	}
	g.Nodes[0] = gram.Node{Kind: gram.Lit, Text: "x"}
	if _, code := Of(g, vocab.Of(g)); code != api.ErrBig {
		t.Error(code)
	}
	for i := range 200 {
		g.Nodes[i+1].Kind = gram.Alt
	}
	if _, code := Of(g, vocab.Of(g)); code != api.ErrBig {
		t.Error(code)
	}
	// A lower rule may have nodes of an upper one within it.
	g = gram.Grammar{Nodes: []gram.Node{{Kind: gram.Seq}, {Kind: gram.Lit, Text: "y"}, {Kind: gram.Class}, {Kind: gram.Name, Text: "F"}, {Kind: gram.Seq, Kids: []int{1, 2}}, {Kind: gram.Lit, Text: "z"}, {Kind: gram.Seq, Kids: []int{1, 2, 3}}},
		Rules: []gram.Rule{{Name: "a"}, {Name: "U", Upper: true, Root: 4}, {Name: "F", Upper: true, Fragment: true, Root: 5}, {Name: "b", Root: 6}}}
	if a, code := Of(g, vocab.Of(g)); code != api.OK && code != api.ErrArg || code == api.OK && !a.Right() {
		t.Error(code)
	}
}

func TestCounts(t *testing.T) {
	for _, s := range []string{"a: 'x' (b | C*)+ 'x'?; b: b? 'y' | ; C: 'z' D; D: 'w'; c: () (C|D|b c)*;", "a: (a a | 'x')? | (b);b:;"} {
		g, _ := gram.Read(s)
		a := of(t, s)
		tokens, calls, node := 0, 0, 0
		for _, r := range g.Rules {
			for ; node <= r.Root; node++ {
				n := g.Nodes[node]
				if r.Upper {
					continue
				}
				if n.Kind == gram.Lit || n.Kind == gram.Name && g.Rules[g.Find(n.Text)].Upper {
					tokens++
				} else if n.Kind == gram.Name {
					calls++
				}
			}
		}
		if !a.Right() || a.Count(Token) != tokens || a.Count(Call) != calls || a.Count(Free)+tokens+calls < a.Long()-len(a.Names) || a.Count(3) != 0 || a.Count(-1) != 0 {
			t.Error(s)
		}
	}
}

func TestCalls(t *testing.T) {
	a := of(t, "a: 'x' | b; C: 'y'; b: C;")
	if a.Find("b") != 1 || a.Find("C") != -1 || a.Find("") != -1 || a.Long() != len(a.Owner) || (Atn{}).Long() != 0 || (Atn{}).Find("a") != -1 {
		t.Error("find")
	}
	for s := -1; s <= a.Long(); s++ {
		if a.Decides(s) != (s == 2) {
			t.Error(s)
		}
	}
	if a.Decides(math.MaxInt) || a.Decides(math.MinInt) || (Atn{}).Decides(0) {
		t.Error("decides")
	}
	c := a.Clone()
	if !c.Same(a) || !(Atn{}).Clone().Same(Atn{}) {
		t.Error("clone")
	}
	c.Names[0], c.Start[0], c.Stop[0], c.Owner[0], c.Edges[0][0].To = "z", 9, 9, 9, 9
	if !a.Same(of(t, "a: 'x' | b; C: 'y'; b: C;")) {
		t.Error("shared")
	}
	for _, change := range []func(*Atn){
		func(a *Atn) { a.Names[0] = "z" }, func(a *Atn) { a.Start[0] = 1 }, func(a *Atn) { a.Stop[0] = 0 }, func(a *Atn) { a.Owner[0] = 1 },
		func(a *Atn) { a.Edges[0][0].Arg = 1 }, func(a *Atn) { a.Types++ }, func(a *Atn) { a.Edges[1] = []Edge{{}} }, func(a *Atn) { a.Names = a.Names[:1] },
	} {
		c := a.Clone()
		change(&c)
		if c.Same(a) || a.Same(c) {
			t.Error("same")
		}
	}
}

func TestRight(t *testing.T) {
	good := of(t, "a: 'x' | b; C: 'y'; b: C;")
	for i, change := range []func(*Atn){
		func(a *Atn) { *a = Atn{} }, func(a *Atn) { a.Names = a.Names[:1] }, func(a *Atn) { a.Start = a.Start[:1] }, func(a *Atn) { a.Stop = append(a.Stop, 0) },
		func(a *Atn) { a.Owner = a.Owner[:3] }, func(a *Atn) { a.Edges = a.Edges[:3] }, func(a *Atn) { a.Start[0] = a.Start[1] }, func(a *Atn) { a.Stop[1] = 0 },
		func(a *Atn) { a.Start[0] = -1 }, func(a *Atn) { a.Stop[0] = a.Long() }, func(a *Atn) { a.Owner[2] = -1 }, func(a *Atn) { a.Owner[2] = 2 },
		func(a *Atn) { a.Edges[0][0].Kind = 3 }, func(a *Atn) { a.Edges[0][0].Kind = -1 }, func(a *Atn) { a.Edges[0][0].To = -1 }, func(a *Atn) { a.Edges[0][0].To = a.Start[1] },
		func(a *Atn) { a.Edges[0][0] = Edge{Token, a.Types, 0} }, func(a *Atn) { a.Edges[0][0] = Edge{Token, -1, 0} }, func(a *Atn) { a.Edges[0][0] = Edge{Call, 2, 0} }, func(a *Atn) { a.Edges[0][0] = Edge{Call, -1, 0} },
		func(a *Atn) {
			a.Owner = append(a.Owner, make([]int, api.MaxStates)...)
			a.Edges = append(a.Edges, make([][]Edge, api.MaxStates)...)
		},
	} {
		a := good.Clone()
		change(&a)
		if a.Right() {
			t.Error(i)
		}
	}
	a := good.Clone()
	a.Edges[0][0].Arg = -77
	a.Edges[0] = append(a.Edges[0], Edge{Token, 1, 0}, Edge{Call, 1, 1})
	if !a.Right() || !slices.Equal(a.Edges[0][1:], []Edge{{Token, 1, 0}, {Call, 1, 1}}) {
		t.Error("right")
	}
}
