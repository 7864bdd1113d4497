package dfa

import (
	"math"
	"slices"
	"testing"

	"souffleur/api"
	"souffleur/bits"
	"souffleur/chars"
	"souffleur/gram"
	"souffleur/nfa"
	"souffleur/vocab"
)

func both(t *testing.T, s string) (nfa.Nfa, Dfa) {
	t.Helper()
	g, stop := gram.Read(s)
	if stop != (api.Stop{}) {
		t.Fatal(s, stop)
	}
	n, code := nfa.Build(g, vocab.Of(g))
	if code != api.OK {
		t.Fatal(s, code)
	}
	d, code := Of(n)
	if code != api.OK {
		t.Fatal(s, code)
	}
	return n, d
}

func grammars() []string {
	return []string{
		"s: A; A: 'a'+;",
		"s: 'a' 'ab' B | 'ba'; B: ([a-b] 'c'?)* ; C: 'a' | 'b' D1 | ; fragment D1: D? 'b'; D: ~[b] .;",
		"s: A; A: ('a'? 'b'*)+ 'c' ('a'|'b')? ; B: (A | 'c')* -> skip;",
		"s: ; A: () ; B: [a-c]* 'a' . .;",
		"s: ;",
	}
}

func TestOf(t *testing.T) {
	for _, s := range grammars() {
		n, d := both(t, s)
		if !d.Right() || d.Long() != len(d.Accepts) {
			t.Fatal(s)
		}
		texts := []string{""}
		for from := 0; len(texts) < 3000; from++ {
			for _, p := range []string{"a", "b", "c", "\xf0\x9f\x98\x80"} {
				texts = append(texts, texts[from]+p)
			}
		}
		for _, text := range texts {
			if got := d.Ends(d.Run(text)); !got.Same(n.Accepts(text)) || d.Type(d.Run(text)) != got.Next(0) {
				t.Fatalf("%s: %q: %v", s, text, got.List())
			}
		}
		// The states in the order in which they are met, by the words of the chapter.
		sets := []bits.Set{n.Begin()}
		for i := 0; i < len(sets); i++ {
			var moves []Move
			for _, p := range chars.Parts(n.Sets(sets[i])...) {
				to := n.Step(sets[i], p.Lo)
				if to.Count() == 0 {
					continue
				}
				k := slices.IndexFunc(sets, to.Same)
				if k < 0 {
					k = len(sets)
					sets = append(sets, to)
				}
				moves = append(moves, Move{p.Lo, p.Hi, k})
			}
			if !slices.Equal(moves, d.Moves[i]) || !n.Ends(sets[i]).Same(d.Accepts[i]) {
				t.Fatal(s, i, moves, d.Moves[i])
			}
		}
		if len(sets) != d.Long() {
			t.Fatal(s, len(sets))
		}
	}
}

func TestOfRefuses(t *testing.T) {
	if d, code := Of(nfa.Nfa{}); code != api.ErrArg || d.Long() != 0 {
		t.Error(code)
	}
	// As many states as there are rows of a's and b's of twelve.
	g, _ := gram.Read("s: A; A: [ab]* 'a' [ab] [ab] [ab] [ab] [ab] [ab] [ab] [ab] [ab] [ab] [ab];")
	n, _ := nfa.Build(g, vocab.Of(g))
	if d, code := Of(n); code != api.ErrBig || d.Long() != 0 || len(d.Moves) != 0 {
		t.Error(code)
	}
	g, _ = gram.Read("s: A; A: [ab]* 'a' [ab] [ab] [ab] [ab] [ab] [ab] [ab] [ab] [ab] [ab];")
	n, _ = nfa.Build(g, vocab.Of(g))
	if d, code := Of(n); code != api.OK || d.Long() != 2049 {
		t.Error(code, d.Long())
	}
}

func TestStates(t *testing.T) {
	_, d := both(t, "s: A B; A: 'a'; B: [a-b] | 'a' 'c';")
	a := d.Step(0, 'a')
	if d.Run("a") != a || !slices.Equal(d.Ends(a).List(), []int{0, 1}) || d.Type(a) != 0 || d.Type(0) != -1 || d.Run("") != 0 {
		t.Error(a)
	}
	if d.Run("x") != -1 || d.Run("\xff") != -1 || d.Run("a\xff") != -1 || d.Run("ab") != -1 || d.Step(0, -1) != -1 {
		t.Error("none")
	}
	for _, n := range []int{-1, d.Long(), math.MaxInt, math.MinInt} {
		if d.Step(n, 'a') != -1 || d.Type(n) != -1 || d.Ends(n).Count() != 0 {
			t.Error(n)
		}
	}
	d.Ends(a)[0] = 0
	if d.Type(a) != 0 {
		t.Error("shared")
	}
	var z Dfa
	if z.Long() != 0 || z.Right() || z.Step(0, 'a') != -1 || z.Run("a") != -1 || z.Type(0) != -1 || len(z.Ends(0)) != 0 {
		t.Error("zero")
	}
}

func TestRight(t *testing.T) {
	one := []bits.Set{nil}
	for i, d := range []Dfa{
		{[][]Move{nil}, one}, {[][]Move{{{0, 0, 0}, {1, api.MaxRune, 0}}}, one}, {make([][]Move, 4000), make([]bits.Set, 4000)},
	} {
		if !d.Right() {
			t.Error(i)
		}
	}
	for i, d := range []Dfa{
		{}, {nil, one}, {[][]Move{nil}, nil}, {[][]Move{{{-1, 0, 0}}}, one}, {[][]Move{{{1, 0, 0}}}, one}, {[][]Move{{{0, api.MaxRune + 1, 0}}}, one},
		{[][]Move{{{0, 0, 1}}}, one}, {[][]Move{{{0, 0, -1}}}, one}, {[][]Move{{{0, 5, 0}, {5, 6, 0}}}, one}, {[][]Move{{{3, 5, 0}, {1, 2, 0}}}, one},
		{make([][]Move, 4001), make([]bits.Set, 4001)}, {[][]Move{nil, nil}, one},
	} {
		if d.Right() {
			t.Error(i)
		}
	}
	// Of one that is not right the first move that has the sign is taken.
	d := Dfa{[][]Move{{{5, 9, 1}, {0, 9, 7}}, nil}, []bits.Set{{6}, {0, 1}}}
	if d.Step(0, 6) != 1 || d.Step(0, 3) != 7 || d.Type(0) != 1 || d.Type(1) != 64 || d.Run("\x03") != 7 || d.Run("\x03\x03") != -1 {
		t.Error("first")
	}
}
