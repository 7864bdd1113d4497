package check

import (
	"math"
	"slices"
	"testing"

	"souffleur/api"
	"souffleur/gram"
)

func read(t *testing.T, s string) gram.Grammar {
	t.Helper()
	g, stop := gram.Read(s)
	if stop != (api.Stop{}) {
		t.Fatal(s, stop)
	}
	return g
}

func TestAll(t *testing.T) {
	for s, want := range map[string][]Fault{
		"a: 'x';":                            nil,
		"a: b;":                              {{api.ErrName, 0, 0}},
		"a: a A; A: 'x' B; fragment B: [c];": nil,
		"A: 'x';":                            {{api.ErrKind, 0, -1}},
		"a: A; A: b [x]; b: [x] A;":          {{api.ErrKind, 1, 2}, {api.ErrKind, 2, 5}},
		"a: A B C D; fragment A:'x'; B:'x'->skip; C:'x'->hidden; D: 'x' A B C -> word;": {{api.ErrKind, 0, 0}, {api.ErrKind, 0, 1}, {api.ErrKind, 0, 2}},
		"a: b; a: c; b: d;":                           {{api.ErrTwice, 1, -1}, {api.ErrName, 1, 2}, {api.ErrName, 2, 4}},
		"a: d; a: .; a: 'x';":                         {{api.ErrTwice, 1, -1}, {api.ErrTwice, 2, -1}, {api.ErrName, 0, 0}, {api.ErrKind, 1, 2}},
		"A: B; B: A; C: A | 'x'; D: D?;":              {{api.ErrKind, 0, -1}, {api.ErrSelf, 0, -1}, {api.ErrSelf, 1, -1}, {api.ErrSelf, 3, -1}},
		"a: 'x'; A: 'x'; A: A;":                       {{api.ErrTwice, 2, -1}},
		"a: 'x'; A: a; a: A;":                         {{api.ErrTwice, 2, -1}, {api.ErrKind, 1, 2}},
		"a: A; A: b; b: A;":                           {{api.ErrKind, 1, 2}},
		"a: 'x'; fragment F: G; fragment G: F | 'x';": {{api.ErrSelf, 1, -1}, {api.ErrSelf, 2, -1}},
	} {
		g := read(t, s)
		got := All(g)
		if !slices.Equal(got, want) {
			t.Errorf("%s: %v", s, got)
		}
		first := Fault{}
		if len(want) > 0 {
			first = want[0]
		}
		if First(g) != first {
			t.Errorf("%s: first %v", s, First(g))
		}
	}
}

func TestNotRight(t *testing.T) {
	none := []Fault{{api.ErrArg, -1, -1}}
	leaf := gram.Node{Kind: gram.Lit, Text: "x"}
	for i, g := range []gram.Grammar{
		{}, {Nodes: []gram.Node{leaf}}, {Rules: []gram.Rule{{Name: "a"}}}, {Nodes: []gram.Node{{Kind: 9}}, Rules: []gram.Rule{{Name: "a"}}},
		{Nodes: []gram.Node{leaf, leaf}, Rules: []gram.Rule{{Name: "a", Root: 1}, {Name: "b", Root: 1}}},
		{Nodes: []gram.Node{leaf, leaf}, Rules: []gram.Rule{{Name: "a", Root: 1}, {Name: "b", Root: 0}}},
		{Nodes: []gram.Node{leaf}, Rules: []gram.Rule{{Name: "a", Root: math.MinInt}}},
	} {
		if !slices.Equal(All(g), none) || First(g) != none[0] || len(Uses(g, 0)) != 0 {
			t.Error(i, All(g))
		}
	}
	// What stands behind the last Root is no rule's.
	g := gram.Grammar{Nodes: []gram.Node{leaf, {Kind: gram.Name, Text: "none"}}, Rules: []gram.Rule{{Name: "a"}}}
	if len(All(g)) != 0 {
		t.Error(All(g))
	}
}

func TestUses(t *testing.T) {
	g := read(t, "a: c b c x A; b: ; c: a; b: a; A: 'x';")
	for i, want := range [][]int{{1, 2, 4}, nil, {0}, {0}, nil, nil} {
		if got := Uses(g, i); !slices.Equal(got, want) {
			t.Error(i, got)
		}
	}
	if len(Uses(g, -1)) != 0 || len(Uses(g, math.MaxInt)) != 0 {
		t.Error("none")
	}
}

func TestLoops(t *testing.T) {
	for _, c := range []struct {
		uses [][]int
		want int
	}{
		{nil, -1}, {[][]int{{0}}, 0}, {[][]int{{1}, {2}, {1}}, 1}, {[][]int{{1, 2}, {2}, nil}, -1}, {[][]int{{-1, 1, math.MaxInt}, {math.MinInt}}, -1},
		{[][]int{{1}, {2}, {0}}, 0}, {[][]int{{3}, {2}, {1}, {1}}, 1}, {[][]int{{2}, {}, {2}}, 2},
	} {
		if got := Loops(c.uses); got != c.want {
			t.Error(c.uses, got)
		}
	}
	// By all graphs of three: who needs itself has a way back.
	for n := 0; n < 512; n++ {
		uses := make([][]int, 3)
		var way [3][3]bool
		for b := 0; b < 9; b++ {
			if n>>b&1 == 1 {
				uses[b/3] = append(uses[b/3], b%3)
				way[b/3][b%3] = true
			}
		}
		for k := range 3 {
			for i := range 3 {
				for j := range 3 {
					way[i][j] = way[i][j] || way[i][k] && way[k][j]
				}
			}
		}
		want := -1
		for i := 2; i >= 0; i-- {
			if way[i][i] {
				want = i
			}
		}
		if got := Loops(uses); got != want {
			t.Fatal(uses, got)
		}
	}
}

func TestNothingIsChanged(t *testing.T) {
	g := read(t, "a: b c b; b: 'x'; c: 'y' A; A: B; B: [z];")
	c := g.Clone()
	All(g)
	l := Uses(g, 0)
	l[0] = 9
	if !g.Same(c) || Uses(g, 0)[0] != 1 {
		t.Error("changed")
	}
}
