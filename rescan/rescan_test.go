package rescan

import (
	"math"
	"math/rand"
	"slices"
	"strings"
	"testing"

	"souffleur/api"
	"souffleur/dfa"
	"souffleur/edit"
	"souffleur/gram"
	"souffleur/munch"
	"souffleur/nfa"
	"souffleur/vocab"
)

func of(s string) dfa.Dfa {
	g, _ := gram.Read(s)
	n, _ := nfa.Build(g, vocab.Of(g))
	d, _ := dfa.Of(n)
	return d
}

func words() dfa.Dfa {
	return of("s: 'if' ID; ID: [a-z]+ -> word; S: ' '+ -> skip; L: '<' [a-z]* '>'; C: '/*' ~[*]* '*/'; E: '\xe2\x82\xac'; D: 'x' '--' 'y';")
}

// slow counts what is told anew by the words of the chapter.
func slow(d dfa.Dfa, s string, old []munch.Piece, e edit.Edit) int {
	i := Kept(old, e)
	at := 0
	if i > 0 {
		at = old[i-1].End
	}
	anew := 0
	for ; at < len(s); anew++ {
		if at >= e.At+len(e.Put) && slices.ContainsFunc(old, func(p munch.Piece) bool { return p.At == at-(len(e.Put)-e.Cut) }) {
			break
		}
		at = munch.Next(d, s, at).End
	}
	return anew
}

func TestAgain(t *testing.T) {
	d := words()
	r := rand.New(rand.NewSource(4))
	pieces := []string{"if", "x", " ", "<", "a", ">", "/*", "*/", "\xe2\x82\xac", "\x82", "\xac", "--y", "\xff"}
	text := func(most int) string {
		s := ""
		for n := r.Intn(most + 1); n > 0; n-- {
			s += pieces[r.Intn(len(pieces))]
		}
		return s
	}
	done := 0
	for range 40000 {
		s := text(12)
		at := r.Intn(len(s) + 1)
		e := edit.Edit{At: at, Cut: r.Intn(len(s) - at + 1), Put: text(2)}
		x, code := edit.Apply(s, e)
		if code != api.OK {
			continue
		}
		done++
		old := munch.All(d, s)
		got, anew := Again(d, x, old, e)
		if !slices.Equal(got, munch.All(d, x)) || anew != slow(d, x, old, e) {
			t.Fatalf("%q %v: %v %d, not %v %d", s, e, got, anew, munch.All(d, x), slow(d, x, old, e))
		}
		if !slices.Equal(old, munch.All(d, s)) {
			t.Fatal("changed")
		}
	}
	if done < 10000 {
		t.Error(done)
	}
}

func TestFewAreToldAnew(t *testing.T) {
	d := words()
	s := strings.Repeat("ab ", 5000)
	old := munch.All(d, s)
	for e, want := range map[edit.Edit]int{
		{At: 7500, Put: "x"}:         2,
		{At: 7502, Put: "x"}:         1,
		{At: 7501, Put: " "}:         3,
		{At: 15000, Put: "x"}:        2,
		{At: 0, Cut: 3}:              0,
		{At: 3, Cut: 15000 - 3}:      1,
		{At: 0, Cut: 15000, Put: ""}: 0,
		{At: 15000}:                  1,
	} {
		x, _ := edit.Apply(s, e)
		if got, anew := Again(d, x, old, e); anew != want || !slices.Equal(got, munch.All(d, x)) {
			t.Errorf("%v: %d", e, anew)
		}
	}
}

func TestKeptAndMoved(t *testing.T) {
	l := []munch.Piece{{Token: api.Token{Type: 1, At: 0, End: 2}, Look: 3}, {Token: api.Token{Type: 2, At: 2, End: 3}, Look: 7}, {Token: api.Token{Type: -2, At: 3, End: 5}, Look: 6}}
	for at, want := range map[int]int{0: 0, 2: 0, 3: 1, 6: 1, 7: 3, math.MaxInt: 3, -1: 0, math.MinInt: 0} {
		if got := Kept(l, edit.Edit{At: at}); got != want {
			t.Error(at, got)
		}
	}
	m := Moved(l, -2)
	if m[1] != (munch.Piece{Token: api.Token{Type: 2, At: 0, End: 1}, Look: 5}) || l[1].At != 2 || len(Moved(nil, 3)) != 0 {
		t.Error(m)
	}
}

func TestOdd(t *testing.T) {
	d := words()
	l := []munch.Piece{{Look: -5, Token: api.Token{At: 7, End: -9}}, {Token: api.Token{At: math.MinInt, End: math.MaxInt}, Look: math.MinInt}, {}}
	for n := 0; n <= 3; n++ {
		for _, e := range []edit.Edit{{}, {At: math.MaxInt, Cut: math.MinInt, Put: "x"}, {At: math.MinInt, Cut: math.MaxInt}, {At: -1, Cut: -1}} {
			Again(d, "ab ab", l[:n], e)
			Again(d, "", l[3-n:], e)
			Again(dfa.Dfa{}, "ab", l[:n], e)
		}
	}
	if l, n := Again(dfa.Dfa{}, "ab", nil, edit.Edit{Put: "ab"}); len(l) != 0 || n != 0 {
		t.Error(l, n)
	}
}
