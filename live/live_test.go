package live

import (
	"math"
	"math/rand"
	"testing"

	"souffleur/bits"
	"souffleur/dfa"
	"souffleur/gram"
	"souffleur/nfa"
	"souffleur/vocab"
)

func of(t *testing.T, s string) (dfa.Dfa, vocab.Vocab) {
	t.Helper()
	g, _ := gram.Read(s)
	v := vocab.Of(g)
	n, code := nfa.Build(g, v)
	if code != 0 {
		t.Fatal(s, code)
	}
	d, _ := dfa.Of(n)
	return d, v
}

func TestExample(t *testing.T) {
	d, v := of(t, "s: 'if' ID; ID: [a-z]+; N: 'x' [0-9]; E: ; F: '\\n' 'q' | '\\u{d7ff}'+ 'q';")
	l := Of(d)
	ifs, id, n, e, f := v.Literal("if"), v.Rule(1), v.Rule(2), v.Rule(3), v.Rule(4)
	for s, want := range map[string][]int{"x": {id, n}, "i": {ifs, id}, "if": {ifs, id}, "iff": {id}, "": {ifs, id, n, e, f}, "?": nil, "\xff": nil, "x5": {n}, "x55": nil, "\n": {f}} {
		if got := l.Begins(s); !got.Same(bits.Of(want...)) {
			t.Errorf("%q: %v", s, got.List())
		}
	}
	if !l.Words("if").Same(bits.Of(ifs, id)) || l.Words("x5").Count() != 1 || !l.Words("").Same(bits.Of(e)) || l.Words("\n").Count() != 0 || l.Words("??").Count() != 0 {
		t.Error("words")
	}
	for _, c := range []struct {
		s    string
		t    int
		want string
	}{{"", id, "a"}, {"", ifs, "if"}, {"i", ifs, "f"}, {"if", ifs, ""}, {"", e, ""}, {"x", n, "0"}, {"", f, "\nq"}, {"\xed\x9f\xbf", f, "q"}} {
		if got, ok := l.Some(l.State(c.s), c.t); got != c.want || !ok {
			t.Errorf("%q %d: %q %v", c.s, c.t, got, ok)
		}
	}
	for _, c := range [][2]int{{l.State("x5"), id}, {-1, id}, {0, -1}, {0, 65536}, {0, 40}, {math.MaxInt, 0}, {math.MinInt, math.MinInt}, {l.Long(), 0}} {
		if got, ok := l.Some(c[0], c[1]); got != "" || ok {
			t.Error(c, got)
		}
	}
	if l.Long() != d.Long() || l.State("if") != d.Run("if") || l.State("?") != -1 || l.Types(-1).Count() != 0 || l.Types(l.Long()).Count() != 0 {
		t.Error("state")
	}
	l.Types(0)[0] = 0
	l.Words("if")[0] = 0
	if l.Types(0).Count() != 5 || l.Words("if").Count() != 2 {
		t.Error("shared")
	}
}

func TestNone(t *testing.T) {
	for _, l := range []Live{{}, Of(dfa.Dfa{}), Of(dfa.Dfa{Moves: [][]dfa.Move{{{Lo: 1, Hi: 0}}}, Accepts: []bits.Set{bits.Of(1)}})} {
		s, ok := l.Some(0, 1)
		if l.Long() != 0 || l.State("") != -1 || l.Types(0).Count() != 0 || l.Begins("").Count() != 0 || l.Words("").Count() != 0 || s != "" || ok {
			t.Error(l)
		}
	}
}

// What is no sign leads nowhere.
func TestSignsAlone(t *testing.T) {
	d := dfa.Dfa{Moves: [][]dfa.Move{{{Lo: 0xd800, Hi: 0xdfff, To: 1}, {Lo: 0xe005, Hi: 0xe006, To: 2}}, nil, {{Lo: 0xdf00, Hi: 0xe001, To: 1}}}, Accepts: []bits.Set{nil, bits.Of(1), bits.Of(2)}}
	l := Of(d)
	if s, ok := l.Some(0, 1); s != "\xee\x80\x85\xee\x80\x80" || !ok {
		t.Errorf("%x", s)
	}
	d.Moves[2][0].Hi = 0xdf01
	l = Of(d)
	if _, ok := l.Some(0, 1); ok || !l.Types(0).Same(bits.Of(2)) {
		t.Error(l.Types(0))
	}
}

// slow goes through all texts, the shorter ones first, sign by sign.
func slow(d dfa.Dfa, state, t int) (string, bool) {
	type place struct {
		state int
		text  string
	}
	l := []place{{state, ""}}
	for n := 0; n <= d.Long(); n++ {
		for _, p := range l {
			if d.Ends(p.state).Has(t) {
				return p.text, true
			}
		}
		var next []place
		met := map[int]bool{}
		for _, p := range l {
			for r := 'a'; r <= 'e'; r++ {
				if to := d.Step(p.state, r); to >= 0 && !met[to] {
					met[to] = true
					next = append(next, place{to, p.text + string(r)})
				}
			}
		}
		l = next
	}
	return "", false
}

func TestSome(t *testing.T) {
	r := rand.New(rand.NewSource(3))
	for range 2000 {
		n := 1 + r.Intn(7)
		d := dfa.Dfa{Moves: make([][]dfa.Move, n), Accepts: make([]bits.Set, n)}
		for i := range n {
			for c := 'a'; c <= 'e'; c++ {
				if r.Intn(3) == 0 {
					d.Moves[i] = append(d.Moves[i], dfa.Move{Lo: c, Hi: c, To: r.Intn(n)})
				}
			}
			if r.Intn(3) == 0 {
				d.Accepts[i] = bits.Of(r.Intn(3), r.Intn(70))
			}
		}
		l := Of(d)
		for state := range n {
			for ty := range 70 {
				want, has := slow(d, state, ty)
				got, ok := l.Some(state, ty)
				if got != want || ok != has || l.Types(state).Has(ty) != has {
					t.Fatal(d, state, ty, got, want)
				}
			}
		}
	}
}
