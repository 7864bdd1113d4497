package munch

import (
	"math"
	"slices"
	"testing"

	"souffleur/api"
	"souffleur/bits"
	"souffleur/dfa"
	"souffleur/gram"
	"souffleur/nfa"
	"souffleur/utf"
	"souffleur/vocab"
)

func of(t *testing.T, s string) (dfa.Dfa, vocab.Vocab) {
	t.Helper()
	g, stop := gram.Read(s)
	if stop.Code != 0 {
		t.Fatal(s, stop)
	}
	v := vocab.Of(g)
	n, _ := nfa.Build(g, v)
	d, _ := dfa.Of(n)
	return d, v
}

func tok(t, at, end int) api.Token { return api.Token{Type: t, At: at, End: end} }

func TestNext(t *testing.T) {
	d, _ := of(t, "s: 'if' ID; ID: [a-z]+; LONG: [a-z] '!!!'; E: '\xe2\x82\xac'; O: 'xy' | '(' ')'?;")
	for _, c := range []struct {
		s    string
		at   int
		want Piece
	}{
		{"ab1", 0, Piece{tok(1, 0, 2), 3}}, {"ab1", 2, Piece{tok(-2, 2, 3), 3}}, {"if", 0, Piece{tok(0, 0, 2), 3}}, {"if ", 0, Piece{tok(0, 0, 2), 3}},
		{"iff", 0, Piece{tok(1, 0, 3), 4}}, {"iff", 1, Piece{tok(1, 1, 3), 4}}, {"a!!!", 0, Piece{tok(2, 0, 4), 5}}, {"a!!?", 0, Piece{tok(1, 0, 1), 4}},
		{"a!!\xff234", 0, Piece{tok(1, 0, 1), 7}}, {"a!!\xff", 0, Piece{tok(1, 0, 1), 5}}, {"a\xff12", 0, Piece{tok(1, 0, 1), 5}}, {"a\xff1", 0, Piece{tok(1, 0, 1), 4}},
		{"\xe2\x82", 0, Piece{tok(-2, 0, 1), 3}}, {"\xe2\x82\xac", 0, Piece{tok(3, 0, 3), 4}}, {"\xe2\x82\xac", 1, Piece{tok(-2, 1, 2), 4}},
		{"\xf0\x9f\x98\x80", 0, Piece{tok(-2, 0, 4), 4}}, {"xy", 0, Piece{tok(1, 0, 2), 3}}, {"(", 0, Piece{tok(4, 0, 1), 2}}, {"()x", 0, Piece{tok(4, 0, 2), 3}},
		{"a", 1, Piece{}}, {"a", -1, Piece{}}, {"", 0, Piece{}}, {"a", math.MaxInt, Piece{}}, {"a", math.MinInt, Piece{}},
	} {
		if got := Next(d, c.s, c.at); got != c.want {
			t.Errorf("%q %d: %v, not %v", c.s, c.at, got, c.want)
		}
	}
	if Next(dfa.Dfa{}, "a", 0) != (Piece{}) || len(All(dfa.Dfa{}, "a")) != 0 || len(All(d, "")) != 0 {
		t.Error("none")
	}
}

func TestEmptyWordIsNoToken(t *testing.T) {
	d, _ := of(t, "s: A; A: 'a'*;")
	if l := All(d, "bab"); !slices.Equal(Tokens(l), []api.Token{tok(-2, 0, 1), tok(0, 1, 2), tok(-2, 2, 3)}) {
		t.Error(l)
	}
}

func TestAll(t *testing.T) {
	d, v := of(t, "s: 'if' ID; ID: [a-z]+ -> word; S: ' '+ -> skip; H: '#' -> hidden; L: '<' [a-z]* '>';")
	pieces := []string{"if", "x", " ", "#", "<a", ">", "\xff", "\xe2\x82", "\xe2\x82\xac"}
	for n := 0; n < 6561; n++ {
		s := ""
		for k := n; k > 0; k /= 9 {
			s += pieces[k%9]
		}
		l := All(d, s)
		at := 0
		for _, p := range l {
			if p != Next(d, s, p.At) || p.At != at || p.End <= at || p.Look < p.End || p.Look > len(s)+1 {
				t.Fatalf("%q: %v", s, l)
			}
			at = p.End
			if p.Type == api.Bad && p.End-p.At != utf.At(s, p.At).Size {
				t.Fatalf("%q: %v", s, l)
			}
			hangs(t, d, s, p)
		}
		if at != len(s) {
			t.Fatalf("%q: %v", s, l)
		}
		tokens := Tokens(l)
		if len(Types(tokens)) != len(l) {
			t.Fatal(s)
		}
		var seen, wrong []api.Token
		for i, x := range tokens {
			if Types(tokens)[i] != x.Type || l[i].Token != x {
				t.Fatal(s)
			}
			switch {
			case x.Type == api.Bad:
				wrong = append(wrong, x)
			case v.Types[x.Type].Channel == gram.Visible:
				seen = append(seen, x)
			}
		}
		if !slices.Equal(seen, Seen(v, tokens)) || !slices.Equal(wrong, Wrong(tokens)) {
			t.Fatal(s)
		}
	}
}

// hangs: what stands behind where a piece was looked at never matters.
func hangs(t *testing.T, d dfa.Dfa, s string, p Piece) {
	if p.Look > len(s) {
		if q := Next(d, s[p.At:]+"", 0); q.Type != p.Type || q.End != p.End-p.At {
			t.Fatalf("%q %v: %v", s, p, q)
		}
		return
	}
	for _, tail := range []string{"", "a", ">", "\x82\xac\xac", "\xff", "\x9f\x98\x80"} {
		if q := Next(d, s[:p.Look]+tail, p.At); q.Token != p.Token {
			t.Fatalf("%q %v %q: %v", s, p, tail, q)
		}
	}
}

func TestCut(t *testing.T) {
	_, v := of(t, "s: 'if' ID; ID: [a-z]+ -> word; S: ' '+ -> skip;")
	l := []api.Token{tok(0, 0, 2), tok(2, 2, 3), tok(1, 3, 5)}
	ahead, last, ok := Cut(v, l, 5)
	if !slices.Equal(ahead, l[:2]) || last != l[2] || !ok {
		t.Error(ahead, last, ok)
	}
	ahead = append(ahead, tok(9, 9, 9))
	ahead[0].Type = 9
	if l[2] != tok(1, 3, 5) || l[0].Type != 0 {
		t.Error("shared")
	}
	for _, c := range []struct {
		l   []api.Token
		end int
	}{{l, 6}, {l, 4}, {l[:1], 2}, {nil, 0}, {[]api.Token{tok(-2, 0, 1)}, 1}, {[]api.Token{tok(3, 0, 1)}, 1}, {[]api.Token{tok(math.MaxInt, 0, 1)}, 1}, {l[:2], 3}} {
		got, last, ok := Cut(v, c.l, c.end)
		if !slices.Equal(got, c.l) || last != (api.Token{}) || ok {
			t.Error(c, got, last, ok)
		}
	}
	got, _, _ := Cut(v, l, 9)
	got[0].Type = 9
	if l[0].Type != 0 {
		t.Error("shared")
	}
}

func TestOddAutomata(t *testing.T) {
	d := dfa.Dfa{Moves: [][]dfa.Move{{{Lo: 'a', Hi: 'a', To: 77}, {Lo: 'b', Hi: 'b', To: -5}, {Lo: 'c', Hi: 'c', To: 0}}}, Accepts: []bits.Set{bits.Of(4)}}
	if got := Tokens(All(d, "abccb")); !slices.Equal(got, []api.Token{tok(-2, 0, 1), tok(-2, 1, 2), tok(4, 2, 4), tok(-2, 4, 5)}) {
		t.Error(got)
	}
}

// What is looked at in vain from many places is told alike, and soon.
func TestLooksInVain(t *testing.T) {
	d, _ := of(t, "s: A; A: 'a'; B: 'a'* 'b'; C: ('a' 'a')* '!' 'a'* '?'; D: 'c' [abc]* 'd';")
	for n := range 4096 {
		s := ""
		for k := range 6 {
			s += []string{"aaaaaaaaa", "b", "!", "caaaaaaaa"}[n>>(2*k)&3]
		}
		at := 0
		for _, p := range All(d, s) {
			if p != Next(d, s, at) {
				t.Fatalf("%q %d: %v, not %v", s, at, p, Next(d, s, at))
			}
			at = p.End
		}
	}
	long := make([]byte, api.MaxText)
	for i := range long {
		long[i] = 'a'
	}
	if l := All(d, string(long)); len(l) != api.MaxText || l[9] != (Piece{tok(0, 9, 10), api.MaxText + 1}) {
		t.Error(len(l))
	}
}
