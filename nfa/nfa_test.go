package nfa

import (
	"slices"
	"strings"
	"testing"

	"souffleur/api"
	"souffleur/bits"
	"souffleur/chars"
	"souffleur/gram"
	"souffleur/vocab"
)

func build(t *testing.T, s string) (Nfa, vocab.Vocab) {
	t.Helper()
	g, stop := gram.Read(s)
	if stop != (api.Stop{}) {
		t.Fatal(s, stop)
	}
	v := vocab.Of(g)
	n, code := Build(g, v)
	if code != api.OK {
		t.Fatal(s, code)
	}
	return n, v
}

// words tells where words of a node that begin at a place end.
func words(g gram.Grammar, node int, s []rune, from int) map[int]bool {
	n := g.Nodes[node]
	out := map[int]bool{}
	again := func(ends map[int]bool) {
		for more := true; more; {
			more = false
			for e := range ends {
				for x := range words(g, n.Kids[0], s, e) {
					if !ends[x] {
						ends[x], more = true, true
						break
					}
				}
			}
		}
	}
	switch n.Kind {
	case gram.Alt:
		for _, k := range n.Kids {
			for e := range words(g, k, s, from) {
				out[e] = true
			}
		}
	case gram.Seq:
		out[from] = true
		for _, k := range n.Kids {
			next := map[int]bool{}
			for e := range out {
				for x := range words(g, k, s, e) {
					next[x] = true
				}
			}
			out = next
		}
	case gram.Opt:
		out = words(g, n.Kids[0], s, from)
		out[from] = true
	case gram.Star:
		out[from] = true
		again(out)
	case gram.Plus:
		out = words(g, n.Kids[0], s, from)
		again(out)
	case gram.Name:
		return words(g, g.Rules[g.Find(n.Text)].Root, s, from)
	case gram.Lit:
		l := []rune(n.Text)
		if from+len(l) <= len(s) && string(s[from:from+len(l)]) == n.Text {
			out[from+len(l)] = true
		}
	case gram.Class:
		if from < len(s) && n.Set.Has(s[from]) {
			out[from+1] = true
		}
	}
	return out
}

func TestAccepts(t *testing.T) {
	for _, s := range []string{
		"s: A; A: 'a'+;",
		"s: 'a' 'ab' B | 'ba'; B: ([a-b] 'c'?)* ; C: 'a' | 'b' C1 | ; fragment C1: D? 'b'; D: ~[b] .;",
		"s: A; A: ('a'? 'b'*)+ 'c' ('a'|'b')? ; B: (A | 'c')* -> skip;",
		"s: ; A: () ; B: ('a'*)* ; C: (('b'+)?)+ 'a';",
		"s: '\xe2\x82\xac'; A: ~[a] ; B: [\\u{0}-\\u{10ffff}]? [b-c];",
		"s: ;",
	} {
		g, _ := gram.Read(s)
		n, v := build(t, s)
		texts := []string{""}
		for from := 0; len(texts) < 2000; from++ {
			for _, p := range []string{"a", "b", "c", "\xe2\x82\xac"} {
				texts = append(texts, texts[from]+p)
			}
		}
		for _, text := range texts {
			var want []int
			for i, x := range v.Types {
				l := []rune(text)
				if x.Rule < 0 && x.Text == text || x.Rule >= 0 && words(g, g.Rules[x.Rule].Root, l, 0)[len(l)] {
					want = append(want, i)
				}
			}
			if got := n.Accepts(text).List(); !slices.Equal(got, want) {
				t.Fatalf("%s: %q: %v, not %v", s, text, got, want)
			}
			at := n.Begin()
			for _, r := range text {
				at = n.Step(at, r)
			}
			if !at.Same(n.Run(text)) || !n.Ends(at).Same(n.Accepts(text)) {
				t.Fatal(s, text)
			}
		}
		if len(n.Accepts("a\xff")) != 0 || len(n.Run("\xff")) != 0 {
			t.Error("not right")
		}
	}
}

// Behind two texts that Run leads to the same states the same texts may stand.
func TestSameStates(t *testing.T) {
	n, v := build(t, "s: 'ab' A B; A: 'a' ('b' | 'c')* 'd'?; B: [ac]+ 'd' | 'b' A;")
	texts := []string{""}
	for from := 0; len(texts) < 400; from++ {
		for _, p := range []string{"a", "b", "c", "d"} {
			texts = append(texts, texts[from]+p)
		}
	}
	met := map[string]string{}
	pairs := 0
	for _, x := range texts {
		key := n.Run(x).Key()
		y, ok := met[key]
		if !ok {
			met[key] = x
			continue
		}
		pairs++
		for _, tail := range texts[:85] {
			if !n.Accepts(x + tail).Same(n.Accepts(y + tail)) {
				t.Fatal(x, y, tail)
			}
		}
	}
	if pairs < 100 || v.Long() != 3 {
		t.Error(pairs)
	}
}

func TestSets(t *testing.T) {
	n, _ := build(t, "s: 'x'; A: [a-c] [d]; B: 'x';")
	l := n.Sets(n.Begin())
	all := chars.Set{}
	for _, s := range l {
		all = all.Or(s)
	}
	if len(l) != 3 || all.Text() != "a-cx" || len(n.Sets(nil)) != 0 {
		t.Error(l)
	}
	l[0][0].Lo = 0
	if n.Sets(n.Begin())[0].Has(0) {
		t.Error("shared")
	}
}

func TestBuildRefuses(t *testing.T) {
	g, _ := gram.Read("a: 'x' A; A: [b];")
	v := vocab.Of(g)
	bad, _ := gram.Read("a: b;")
	for i, c := range []struct {
		g gram.Grammar
		v vocab.Vocab
	}{{bad, vocab.Of(bad)}, {g, vocab.Vocab{}}, {g, vocab.Vocab{Types: v.Types[:1]}}, {gram.Grammar{}, vocab.Vocab{}}} {
		if n, code := Build(c.g, c.v); code != api.ErrArg || n.Long() != 0 {
			t.Error(i, code)
		}
	}
}

func TestBig(t *testing.T) {
	for s, want := range map[string]api.Errno{
		"s: '" + strings.Repeat("a", 1000) + "';":       api.OK,
		"s: A; A: " + strings.Repeat("[a] ", 999) + ";": api.OK,
		"s: A; A: " + strings.Repeat("'b'", 499) + ";":  api.OK,
		"s: '" + strings.Repeat("a", 4000) + "';":       api.ErrBig,
		"s: A; A: B B B B B B B B; fragment B: C C C C C C C C; fragment C: D D D D D D D D; fragment D: E E E E E E E E; fragment E: 'x';": api.ErrBig,
	} {
		g, _ := gram.Read(s)
		n, code := Build(g, vocab.Of(g))
		if code != want || n.Long() > api.MaxStates || code != api.OK && n.Long() != 0 {
			t.Errorf("%.40q: %v %d", s, code, n.Long())
		}
	}
	// Rules that name one another, twice each, are too many nodes by far.
	s := "s: A0;"
	for i := 'A'; i < 'Z'; i++ {
		s += string(i) + "0: " + string(i+1) + "0 " + string(i+1) + "0;"
	}
	g, _ := gram.Read(s + "Z0: ;")
	if _, code := Build(g, vocab.Of(g)); code != api.ErrBig {
		t.Error(code)
	}
}

func TestOddGrammars(t *testing.T) {
	// The upper rule's nodes lie in part in the lower one's, which names itself.
	self := gram.Grammar{Nodes: []gram.Node{{Kind: gram.Name, Text: "a"}, {Kind: gram.Seq, Kids: []int{0}}, {Kind: gram.Opt, Kids: []int{0}}},
		Rules: []gram.Rule{{Name: "a", Root: 1}, {Name: "A", Upper: true, Root: 2}}}
	if _, code := Build(self, vocab.Of(self)); code != api.ErrBig {
		t.Error(code)
	}
	none := gram.Grammar{Nodes: []gram.Node{{Kind: gram.Lit, Text: "\xff"}, {Kind: gram.Lit}, {Kind: gram.Class}}, Rules: []gram.Rule{{Name: "a"}, {Name: "A", Upper: true, Root: 1}, {Name: "B", Upper: true, Root: 2}}}
	n, code := Build(none, vocab.Of(none))
	if code != api.OK || len(n.Accepts("\xef\xbf\xbd")) != 0 || !n.Accepts("").Same(bits.Of(1)) {
		t.Error(code)
	}
}

func TestOddAutomata(t *testing.T) {
	all := chars.All()
	for i, n := range []Nfa{
		{}, {Accept: []int{5}}, {Accept: []int{-7, 1 << 40}, Eps: [][]int{{-1, 1, 0, 9}, {0}}, Edges: [][]Edge{{{all, -3}, {all, 1}, {all, 99}}, nil, {{all, 0}}}},
		{Eps: [][]int{{1}}}, {Edges: [][]Edge{{{all, 0}}}},
	} {
		n.Run("ab")
		n.Accepts("")
		n.Step(bits.Of(0, 1, 2, 65535), 'x')
		n.Ends(bits.Of(0, 65535))
		n.Sets(bits.Of(0, 1, 2, 3))
		if i == 0 && (n.Begin().Count() != 0 || n.Run("").Count() != 0 || n.Accepts("").Count() != 0 || n.Long() != 0 || len(n.Sets(bits.Of(0))) != 0) {
			t.Error("zero")
		}
	}
}
