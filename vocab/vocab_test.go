package vocab

import (
	"math"
	"slices"
	"testing"

	"souffleur/api"
	"souffleur/gram"
)

func of(t *testing.T, s string) Vocab {
	t.Helper()
	g, stop := gram.Read(s)
	if stop != (api.Stop{}) {
		t.Fatal(s, stop)
	}
	return Of(g)
}

func TestOf(t *testing.T) {
	for s, want := range map[string][]Type{
		"a: 'x' A 'x'; A: 'y';": {{"x", -1, 0, false}, {"A", 1, 0, false}},
		"a: ('b' | 'a')? c; A: 'z' -> word; fragment F: 'q'; c: 'c' 'b'; S: ' ' -> skip; H: F -> hidden;": {
			{"b", -1, 0, false}, {"a", -1, 0, false}, {"c", -1, 0, false}, {"A", 1, 0, true}, {"S", 4, gram.Skip, false}, {"H", 5, gram.Hidden, false}},
		"a: A; A: 'x' 'y';": {{"A", 1, 0, false}},
		"a: 'A' A; A: 'A';": {{"A", -1, 0, false}, {"A", 1, 0, false}},
		"a: ;":              nil,
		"a: b;":             nil,
		"A: 'x';":           nil,
	} {
		if got := of(t, s); !slices.Equal(got.Types, want) {
			t.Errorf("%s: %v", s, got)
		}
	}
	if Of(gram.Grammar{}).Long() != 0 {
		t.Error("none")
	}
}

func TestCalls(t *testing.T) {
	v := of(t, "a: 'x' A '\\n'; A: 'y'; S: ' ' -> skip;")
	if v.Long() != 4 || v.Literal("x") != 0 || v.Literal("\n") != 1 || v.Literal("A") != -1 || v.Literal("y") != -1 {
		t.Error(v)
	}
	if v.Rule(1) != 2 || v.Rule(2) != 3 || v.Rule(0) != -1 || v.Rule(-1) != -1 || v.Rule(math.MinInt) != -1 || v.Rule(math.MaxInt) != -1 {
		t.Error("rule")
	}
	for n, want := range map[int]string{0: "'x'", 1: `'\n'`, 2: "A", 3: "S", 4: "", -1: "EOF", -2: "", math.MaxInt: "", math.MinInt: ""} {
		if got := v.Name(n); got != want {
			t.Error(n, got)
		}
	}
	for n, want := range map[int]bool{0: true, 1: true, 2: true, 3: false, 4: false, -1: false, math.MaxInt: false} {
		if v.Visible(n) != want {
			t.Error(n)
		}
	}
	odd := Vocab{[]Type{{"q", -5, 0, false}, {"q", -1, 7, false}, {"q", -1, 0, false}}}
	if odd.Name(0) != "q" || odd.Literal("q") != 1 || odd.Visible(1) || odd.Rule(-5) != -1 {
		t.Error("odd")
	}
}

func TestSame(t *testing.T) {
	v := of(t, "a: 'x' A; A: 'y';")
	if !v.Same(of(t, "a: A 'x' 'x'; A: 'z';")) || !(Vocab{}).Same(Vocab{Types: []Type{}}) || v.Same(Vocab{}) || (Vocab{}).Same(v) {
		t.Error("same")
	}
	for _, s := range []string{"a: 'y' A; A: 'y';", "a: 'x' B; B: 'y';", "a: 'x' A; A: 'y' -> word;", "a: 'x'; A: 'y' -> hidden;", "a: 'x' A; b: ; A: 'y';", "a: 'x';"} {
		if v.Same(of(t, s)) {
			t.Error(s)
		}
	}
}

func TestEachHasOne(t *testing.T) {
	g, _ := gram.Read("a: 'x' 'y' b 'x'; b: 'y' 'z' A; A: 'x'; fragment F: 'w'; B: F -> skip;")
	v := Of(g)
	count := map[Type]int{}
	for i, x := range v.Types {
		count[x]++
		if x.Rule >= 0 && v.Rule(x.Rule) != i || x.Rule < 0 && v.Literal(x.Text) != i || count[x] > 1 {
			t.Error(x)
		}
	}
	if v.Long() != 5 {
		t.Error(v)
	}
}
