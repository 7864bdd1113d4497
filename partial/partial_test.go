package partial

import (
	"math"
	"slices"
	"strings"
	"testing"

	"souffleur/api"
	"souffleur/atn"
	"souffleur/bits"
	"souffleur/closure"
	"souffleur/dfa"
	"souffleur/follow"
	"souffleur/gram"
	"souffleur/left"
	"souffleur/live"
	"souffleur/nfa"
	"souffleur/offer"
	"souffleur/sim"
	"souffleur/vocab"
)

type lang struct {
	v vocab.Vocab
	l live.Live
	f follow.Follow
	w *closure.Walk
	d dfa.Dfa
}

func of(t *testing.T, s string) lang {
	t.Helper()
	g, stop := gram.Read(s)
	if stop.Code != api.OK {
		t.Fatal(s, stop)
	}
	v := vocab.Of(g)
	n, _ := nfa.Build(g, v)
	d, _ := dfa.Of(n)
	a, _ := atn.Of(g, v)
	a, code, _ := left.Ready(a)
	w, code2 := closure.New(a)
	if code != api.OK || code2 != api.OK {
		t.Fatal(s, code, code2)
	}
	return lang{v, live.Of(d), follow.Of(a), w, d}
}

const text = "s: 'if' e | c ID | n; e: ID 'in'; c: e? 'else'; n: 'x' N | ; ID: [a-z]+ -> word; N: [0-9]+; S: ' ' -> skip;"

func TestTypesAndRules(t *testing.T) {
	x := of(t, text)
	all := bits.Of(0, 1, 2, 3, 4, 5, 6, 70)
	id, ifs, in, els, xs := x.v.Rule(5-1), x.v.Literal("if"), x.v.Literal("in"), x.v.Literal("else"), x.v.Literal("x")
	for begun, want := range map[string]bits.Set{"i": bits.Of(id, ifs, in), "x": bits.Of(id, xs), "el": bits.Of(id, els), "ifs": bits.Of(id), "9": bits.Of(x.v.Rule(5)), "?": nil, "": all, "\xff": nil, " ": bits.Of(x.v.Rule(6))} {
		if got := Types(x.l, all, begun); !got.Same(want) {
			t.Errorf("%q: %v, not %v", begun, got.List(), want.List())
		}
	}
	rules := bits.Of(0, 1, 2, 3, 9, 65535)
	for begun, want := range map[string]bits.Set{"": rules, "i": bits.Of(0, 1, 2), "x": bits.Of(0, 1, 2, 3), "9": nil, "e": bits.Of(0, 1, 2), "?": nil} {
		if got := Rules(x.l, x.f, rules, begun); !got.Same(want) {
			t.Errorf("%q: %v", begun, got.List())
		}
	}
	if !Types(x.l, bits.Of(id), "i").Same(bits.Of(id)) || Types(live.Live{}, all, "i").Count() != 0 || Rules(live.Live{}, follow.Follow{}, rules, "i").Count() != 0 || !Rules(live.Live{}, follow.Follow{}, rules, "").Same(rules) {
		t.Error("types")
	}
	got := Types(x.l, all, "")
	got[0] = 0
	if all.Count() != 8 {
		t.Error("shared")
	}
}

func TestStay(t *testing.T) {
	x := of(t, text)
	s, _ := sim.New(x.w, 1<<20)
	o, _ := offer.Of(s, offer.Want{Rules: bits.Of(1, 2, 3)})
	if !o.End || len(o.Hits) != 2 {
		t.Fatal(o)
	}
	if same := Stay(x.l, x.f, o, ""); !same.Same(o) || !slices.Equal(same.Hits, o.Hits) || same.Calls != o.Calls {
		t.Error(same)
	}
	for begun, rules := range map[string]bits.Set{"x": bits.Of(2, 3), "e": bits.Of(2), "i": bits.Of(2), "?": nil, "9": nil} {
		stay := Stay(x.l, x.f, o, begun)
		var hits []closure.Hit
		for _, h := range o.Hits {
			if rules.Has(h.Rule) {
				hits = append(hits, h)
			}
		}
		if stay.End || !stay.Rules.Same(rules) || !stay.Types.Same(Types(x.l, o.Types, begun)) || !slices.Equal(stay.Hits, hits) || stay.Calls != o.Calls {
			t.Error(begun, stay)
		}
	}
	if len(o.Hits) != 2 || !o.End || o.Rules.Count() != 2 {
		t.Error("changed")
	}
}

func TestRest(t *testing.T) {
	x := of(t, text)
	id, ifs, n := x.v.Rule(4), x.v.Literal("if"), x.v.Rule(5)
	for _, c := range []struct {
		t     int
		begun string
		rest  string
		ok    bool
	}{
		{ifs, "", "if", true}, {ifs, "i", "f", true}, {ifs, "if", "", true}, {ifs, "ifs", "", false}, {ifs, "x", "", false}, {id, "", "a", true}, {id, "if", "", true}, {n, "", "0", true}, {n, "a", "", false},
		{-1, "", "", false}, {99, "", "", false}, {math.MaxInt, "i", "", false}, {math.MinInt, "", "", false}, {id, "\xff", "", false},
	} {
		if rest, ok := Rest(x.l, x.v, c.t, c.begun); rest != c.rest || ok != c.ok {
			t.Error(c, rest, ok)
		}
	}
	for ty := range x.v.Long() {
		for _, begun := range []string{"", "i", "if", "el", "else", "7", " ", "zz"} {
			rest, ok := Rest(x.l, x.v, ty, begun)
			if ok != x.l.Begins(begun).Has(ty) || ok && !x.d.Ends(x.d.Run(begun+rest)).Has(ty) {
				t.Error(ty, begun, rest)
			}
		}
	}
	// A vocabulary that is another one's.
	Rest(x.l, vocab.Vocab{}, ifs, "if")
	Rest(x.l, vocab.Vocab{Types: []vocab.Type{{Text: "q", Rule: -1}}}, 0, strings.Repeat("i", 1))
	if rest, ok := Rest(live.Live{}, x.v, 0, ""); rest != "" || ok {
		t.Error(rest)
	}
}
