package audit

import (
	"math"
	"math/rand"
	"slices"
	"testing"

	"souffleur/api"
	"souffleur/bits"
	"souffleur/complete"
	"souffleur/offer"
	"souffleur/rank"
)

func load(t *testing.T, s string) *complete.Lang {
	t.Helper()
	l, f := complete.Load(s)
	if f.Code != api.OK {
		t.Fatal(s, f)
	}
	return l
}

const grammar = "s: a | b; a: c 'x'; b: c 'y' | d; c: d; d: 'z' | 'q' s | N; N: [0-9]+; S: ' '+ -> skip; W: [a-z]+ -> word;"

func TestNoFlaws(t *testing.T) {
	r := rand.New(rand.NewSource(21))
	l := load(t, grammar)
	pieces := []string{"q", "z", "x", "y", "1", " ", "?", "foo"}
	for range 500 {
		s := ""
		for range r.Intn(7) {
			s += pieces[r.Intn(len(pieces))]
		}
		w := offer.Want{NoEnd: r.Intn(2) == 0, Less: bits.Of(r.Intn(9))}
		if r.Intn(2) == 0 {
			w.Rules = bits.Of(r.Intn(5), r.Intn(5))
		}
		a, code := l.Complete(s, len(s), w, nil, 4, api.MaxBudget)
		if flaws := Check(l, s, len(s), w, a); code != api.OK || len(flaws) != 0 {
			t.Fatal(s, w, flaws)
		}
	}
}

func TestFlaws(t *testing.T) {
	l := load(t, grammar)
	w := offer.Want{Rules: bits.Of(3, 4)}
	right := func() complete.Answer {
		a, _ := l.Complete("", 0, w, nil, 4, api.MaxBudget)
		return a
	}
	a := right()
	if len(a.Entries) != 2 || a.Entries[0].Name != "c" || len(a.Routes[0]) != 2 || len(a.Routes[1]) != 1 {
		t.Fatal(a)
	}
	for i, c := range []struct {
		change func(a *complete.Answer)
		want   []Flaw
	}{
		{func(a *complete.Answer) { *a = complete.Answer{} }, []Flaw{{Lost, -1}}},
		{func(a *complete.Answer) { a.Entries = a.Entries[:1] }, []Flaw{{Lost, -1}}},
		{func(a *complete.Answer) { a.Entries = a.Entries[1:] }, []Flaw{{Lost, -1}, {Rowed, 0}}},
		{func(a *complete.Answer) {
			a.Entries = append(a.Entries, rank.Entry{Kind: rank.End, ID: -1, Name: "EOF"})
		}, []Flaw{{Stray, 2}}},
		{func(a *complete.Answer) {
			a.Entries = append(a.Entries, rank.Entry{Kind: rank.Token, ID: 7, Clean: true})
		}, []Flaw{{Stray, 2}, {Order, 2}}},
		{func(a *complete.Answer) { slices.Reverse(a.Entries); slices.Reverse(a.Routes) }, []Flaw{{Order, 1}}},
		{func(a *complete.Answer) { a.Entries[0].Name = "d" }, []Flaw{{Named, 0}}},
		{func(a *complete.Answer) { a.Entries[1].Literal = true }, []Flaw{{Order, 1}, {Named, 1}}},
		{func(a *complete.Answer) { a.Entries[0].Clean = true }, []Flaw{{Named, 0}}},
		{func(a *complete.Answer) { a.Entries[0].Uses = 7 }, nil},
		{func(a *complete.Answer) { a.Routes = nil; a.More = nil; a.Begun = "x" }, nil},
		{func(a *complete.Answer) { a.Routes[0] = a.Routes[1] }, []Flaw{{Rowed, 0}}},
		{func(a *complete.Answer) { a.Routes[0] = a.Routes[0][:1] }, nil},
		{func(a *complete.Answer) { slices.Reverse(a.Routes[0]) }, []Flaw{{Rowed, 0}}},
		{func(a *complete.Answer) { a.Entries[0].Kind = rank.Token }, []Flaw{{Lost, -1}, {Stray, 0}, {Rowed, 0}, {Order, 1}}},
	} {
		x := right()
		c.change(&x)
		if got := Check(l, "", 0, w, x); !slices.Equal(got, c.want) {
			t.Error(i, got, c.want)
		}
	}
	if len(Check(l, "", 1, w, complete.Answer{})) != 0 || len(Check(nil, "", 0, w, a)) != 0 || len(Check(&complete.Lang{}, "", 0, w, complete.Answer{})) != 0 || len(Check(l, "\xe2\x82\xac", 1, w, complete.Answer{})) != 0 {
		t.Error("errors")
	}
}

func TestRows(t *testing.T) {
	l := load(t, grammar)
	for i, c := range []struct {
		rows [][]int
		rule int
		want bool
	}{
		{nil, 4, true}, {[][]int{{0}}, 0, true}, {[][]int{{0, 2, 4}}, 4, true}, {[][]int{{0, 2, 4}, {0, 1, 3, 4}, {0, 2, 3, 4}, {0, 2, 4, 0, 2, 4}}, 4, true},
		{[][]int{{}}, 4, false}, {[][]int{nil}, 0, false}, {[][]int{{1, 3}}, 3, false}, {[][]int{{0, 1}}, 3, false}, {[][]int{{0, 3}}, 3, false}, {[][]int{{0, 2, 4}, {0, 2, 4}}, 4, false},
		{[][]int{{0, 2, 3, 4}, {0, 1, 3, 4}}, 4, false}, {[][]int{{0, 1, 3, 4}, {0, 2, 4}}, 4, false}, {[][]int{{0, 99}}, 99, false}, {[][]int{{0, -1}}, -1, false}, {[][]int{{0, math.MaxInt}}, math.MaxInt, false}, {[][]int{{0, 0}}, 0, false},
	} {
		if got := Rows(l, c.rows, c.rule); got != c.want {
			t.Error(i, got)
		}
	}
	for _, l := range []*complete.Lang{nil, {}} {
		if Rows(l, nil, 0) || Rows(l, [][]int{{0}}, 0) {
			t.Error("plain")
		}
	}
}

func TestName(t *testing.T) {
	for what, want := range map[int]string{Lost: "lost", Stray: "stray", Order: "order", Named: "named", Rowed: "rowed", 0: "", 6: "", -1: "", math.MaxInt: "", math.MinInt: ""} {
		if Name(what) != want {
			t.Error(what)
		}
	}
	if Lost != 1 || Stray != 2 || Order != 3 || Named != 4 || Rowed != 5 {
		t.Error("numbers")
	}
}
