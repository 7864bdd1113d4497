package complete

import (
	"math"
	"math/rand"
	"slices"
	"strings"
	"testing"

	"souffleur/api"
	"souffleur/bits"
	"souffleur/gram"
	"souffleur/munch"
	"souffleur/offer"
	"souffleur/rank"
	"souffleur/viable"
	"souffleur/vocab"
)

func load(t testing.TB, s string) *Lang {
	t.Helper()
	l, f := Load(s)
	if f != (Fault{}) || l == nil {
		t.Fatalf("%.60q: %v", s, f)
	}
	return l
}

func TestLoad(t *testing.T) {
	for s, want := range map[string]Fault{
		"":                            {api.ErrEnd, 0},
		"a: 'x":                       {api.ErrEnd, 3},
		"a: 'x' )":                    {api.ErrSign, 7},
		" A: 'x';":                    {api.ErrKind, 1},
		"a: 'x' b;":                   {api.ErrName, 7},
		"a: 'x'; A: a;":               {api.ErrKind, 11},
		"a: 'x'\n; b: [a];":           {api.ErrKind, 12},
		"a: 'x'; a: 'y';":             {api.ErrTwice, 8},
		"a: 'x'; A: 'y' A;":           {api.ErrSelf, 8},
		"a: a;":                       {api.ErrUseful, 0},
		"  a: b;A: 'x'; b: 'x' b;":    {api.ErrUseful, 2},
		"a: b; A: 'x'; b: (A?)* ;":    {api.ErrLoop, 14},
		"a: b; A: 'x'; b: A? b 'y'|;": {api.ErrSelf, 14},
		"a: b 'x' c; b: 'x'; A: 'x'; c: c 'y' | 'z';":                                {api.ErrSelf, 28},
		"a: '" + strings.Repeat("x", 5000) + "';":                                    {api.ErrBig, 0},
		"a: A; A: [ab]* 'a' [ab] [ab] [ab] [ab] [ab] [ab] [ab] [ab] [ab] [ab] [ab];": {api.ErrBig, 0},
		"a: " + strings.Repeat("b? ", 1000) + "; b: 'x';":                            {api.ErrBig, 0},
		strings.Repeat(" ", api.MaxGram+1):                                           {api.ErrBig, 0},
	} {
		if l, f := Load(s); f != want || l != nil {
			t.Errorf("%.60q: %v, not %v", s, f, want)
		}
	}
}

func TestLang(t *testing.T) {
	text := "s: 'if' e | ID; e: ID s?; ID: [a-z]+ -> word; S: ' '+ -> skip;"
	l := load(t, text)
	g, _ := gram.Read(text)
	if !l.Grammar().Same(g) || !l.Vocab().Same(vocab.Of(g)) || !l.Dfa().Right() || l.Live().Long() != l.Dfa().Long() || len(l.Follow().First) != 2 || len(l.Walk().Atn().Names) != 2 {
		t.Error("lang")
	}
	l.Grammar().Nodes[0].Text = "z"
	if !l.Grammar().Same(g) {
		t.Error("shared")
	}
	for _, l := range []*Lang{nil, {}} {
		a, code := l.Complete("", -5, offer.Want{}, nil, 4, 1000)
		b, code2 := l.Of("", nil, offer.Want{}, nil, 4, 1000)
		if len(l.Grammar().Rules) != 0 || l.Vocab().Long() != 0 || l.Dfa().Long() != 0 || l.Live().Long() != 0 || len(l.Follow().First) != 0 || l.Walk() != nil || code != api.ErrNil || code2 != api.ErrNil || !a.Same(Answer{}) || !b.Same(Answer{}) {
			t.Error("plain")
		}
	}
}

// told tells an answer's entries as a text.
func told(a Answer) string {
	var l []string
	for _, e := range a.Entries {
		x := e.Name
		if e.Clean {
			x += "!"
		}
		l = append(l, x)
	}
	return strings.Join(l, " ")
}

func tok(t, at, end int) api.Token { return api.Token{Type: t, At: at, End: end} }

func TestComplete(t *testing.T) {
	l := load(t, "s: 'if' ID; ID: [a-z]+ -> word; S: ' '+ -> skip;")
	for _, c := range []struct {
		s, begun       string
		from           int
		told           string
		dropped, wrong []api.Token
	}{
		{"", "", 0, "'if'!", nil, nil},
		{"i", "i", 0, "'if'!", nil, nil},
		{"if", "", 2, "ID", nil, nil},
		{"if ", "", 3, "ID", nil, nil},
		{"if x", "x", 3, "ID", nil, nil},
		{"if x ", "", 5, "EOF", nil, nil},
		{"x ? if", "", 6, "ID", []api.Token{tok(1, 0, 1)}, []api.Token{tok(-2, 2, 3)}},
		{"q", "q", 0, "", nil, nil},
		{"if x y", "y", 5, "", nil, nil},
		{"if x if ", "", 8, "EOF", []api.Token{tok(0, 5, 7)}, nil},
		{"\xff", "", 1, "'if'!", nil, []api.Token{tok(-2, 0, 1)}},
	} {
		a, code := l.Complete(c.s, len(c.s), offer.Want{}, nil, 4, api.MaxBudget)
		if code != api.OK || a.Begun != c.begun || a.From != c.from || told(a) != c.told || !slices.Equal(a.Dropped, c.dropped) || !slices.Equal(a.Wrong, c.wrong) || len(a.Routes) != len(a.Entries) || len(a.More) != len(a.Entries) {
			t.Errorf("%q: %+v %s", c.s, a, told(a))
		}
	}
	want := []rank.Entry{{Kind: rank.Token, ID: 0, Name: "'if'", Literal: true, Clean: true, Uses: 7}}
	if a, _ := l.Complete("", 0, offer.Want{}, Uses{{0, 0}: 7, {1, 0}: 9}, 4, api.MaxBudget); !slices.Equal(a.Entries, want) {
		t.Error(a.Entries)
	}
}

func TestOrder(t *testing.T) {
	l := load(t, "s: ('a' | 'b' | N | t)*; t: 'c'; N: [0-9]+; S: ' ' -> skip;")
	w := offer.Want{Rules: bits.Of(1)}
	a, _ := l.Complete("1", 1, w, nil, 4, api.MaxBudget)
	if told(a) != "'a'! 'b'! t EOF N" {
		t.Error(told(a))
	}
	a, _ = l.Complete("1", 1, w, Uses{{0, 3}: 1, {2, -1}: 2, {1, 1}: 1}, 4, api.MaxBudget)
	if told(a) != "EOF t N 'a'! 'b'!" {
		t.Error(told(a))
	}
	if a, _ = l.Complete("1", 1, offer.Want{Less: bits.Of(0, 3), NoEnd: true}, nil, 4, api.MaxBudget); told(a) != "'b'! 'c'!" {
		t.Error(told(a))
	}
	if a, _ = l.Complete("1", 1, offer.Want{Rules: bits.Of(0, 1)}, nil, 4, api.MaxBudget); told(a) != "'a'! 'b'! t EOF N" {
		t.Error(told(a))
	}
	if a, _ = l.Complete(" ", 1, offer.Want{Rules: bits.Of(0, 1)}, nil, 4, api.MaxBudget); told(a) != "s EOF" || len(a.Routes[0]) != 1 || !slices.Equal(a.Routes[0][0], []int{0}) || a.More[0] {
		t.Error(told(a), a.Routes)
	}
}

func TestRoutes(t *testing.T) {
	l := load(t, "s: a | b; a: c 'x'; b: c 'y' | d; c: d; d: 'z';")
	w := offer.Want{Rules: bits.Of(4)}
	a, _ := l.Complete("", 0, w, nil, 64, api.MaxBudget)
	rows := [][]int{{0, 2, 4}, {0, 1, 3, 4}, {0, 2, 3, 4}}
	if told(a) != "d" || !slices.EqualFunc(a.Routes[0], rows, func(x, y []int) bool { return slices.Equal(x, y) }) || a.More[0] {
		t.Error(a.Routes)
	}
	for n := -1; n < 4; n++ {
		if a, _ = l.Complete("", 0, w, nil, n, api.MaxBudget); len(a.Routes[0]) != min(max(n, 0), 3) || a.More[0] != (n < 3) {
			t.Error(n, a)
		}
	}
}

func TestErrors(t *testing.T) {
	l := load(t, "s: 'x'*;")
	big := strings.Repeat("x", api.MaxText)
	for i, c := range []struct {
		s           string
		caret, most int
		code        api.Errno
	}{
		{"", -1, 99, api.ErrArg}, {"x", 2, 99, api.ErrArg}, {"x", math.MaxInt, 99, api.ErrArg}, {"x", math.MinInt, 99, api.ErrArg}, {"\xe2\x82\xac", 1, 99, api.ErrCaret}, {"\xe2\x82\xac", 2, 99, api.ErrCaret},
		{big + "x", 0, 99, api.ErrBig}, {big + "\xe2\x82\xac", api.MaxText + 1, 99, api.ErrCaret}, {big + "x", api.MaxText + 2, 99, api.ErrArg}, {"", 0, 0, api.ErrBudget}, {"xxxx", 4, 9, api.ErrBudget}, {big, 0, 99, api.OK},
	} {
		a, code := l.Complete(c.s, c.caret, offer.Want{}, nil, 4, c.most)
		if code != c.code || code != api.OK && !a.Same(Answer{}) {
			t.Error(i, code)
		}
	}
}

// What is told hangs on what is ahead of the caret alone, and says what the layers below say.
func TestRandom(t *testing.T) {
	r := rand.New(rand.NewSource(19))
	l := load(t, "s: st* ; st: 'if' '(' e ')' st | ID '=' e ';' | ';'; e: p ('+' p)*; p: ID | N | '(' e ')' | ID '(' (e (',' e)*)? ')'; ID: [a-z] [a-z0-9]* -> word; N: [0-9]+; S: [ \\n]+ -> skip; C: '#' ~[\\n]* -> hidden;")
	pieces := []string{"if", "(", "x", " ", "=", "1", ";", "+", ")", ",", "#", "\n", "?", "\xff", "(", "x", "=", " "}
	for range 1500 {
		s := ""
		for range r.Intn(12) {
			s += pieces[r.Intn(len(pieces))]
		}
		w := offer.Want{NoEnd: r.Intn(3) == 0}
		if r.Intn(2) == 0 {
			w.Rules = bits.Of(r.Intn(4), r.Intn(4))
		}
		caret := r.Intn(len(s) + 1)
		a, code := l.Complete(s, caret, w, nil, 4, api.MaxBudget)
		b, code2 := l.Complete(s[:caret], caret, w, nil, 4, api.MaxBudget)
		if code != api.OK || code2 != api.OK || !a.Same(b) {
			t.Fatal(s, caret, code, code2)
		}
		checkAnswer(t, l, s[:caret], w, a)
	}
}

func checkAnswer(t *testing.T, l *Lang, s string, w offer.Want, a Answer) {
	t.Helper()
	tokens := munch.Tokens(munch.All(l.Dfa(), s))
	if n := len(tokens); n > 0 && tokens[n-1].Type >= 0 && l.Vocab().Types[tokens[n-1].Type].Word {
		if a.From != tokens[n-1].At || a.Begun != s[a.From:] {
			t.Fatal(s, a)
		}
		tokens = tokens[:n-1]
	} else if a.From != len(s) || a.Begun != "" {
		t.Fatal(s, a)
	}
	types := munch.Types(munch.Seen(l.Vocab(), tokens))
	kept, at, _ := viable.Keep(l.Walk(), types, api.MaxBudget)
	if len(kept.Out) != len(a.Dropped) {
		t.Fatal(s, a)
	}
	in := kept.Types(types)
	for _, e := range a.Entries {
		switch e.Kind {
		case rank.Token:
			if !at.Offers().Has(e.ID) || a.Begun != "" && !l.Live().Begins(a.Begun).Has(e.ID) {
				t.Fatal(s, e)
			}
		case rank.End:
			if !at.Ends() || w.NoEnd || a.Begun != "" {
				t.Fatal(s, e)
			}
		}
		if e.Clean {
			putThere(t, l, s[:a.From], e, in)
		}
	}
	if w.Rules.Count() > 0 {
		return
	}
	for _, ty := range at.Offers().List() {
		if (a.Begun == "" || l.Live().Begins(a.Begun).Has(ty)) != (rank.Find(a.Entries, rank.Token, ty) >= 0) {
			t.Fatal(s, ty)
		}
	}
}

// putThere: what is clean, taken, is kept, and changes nothing ahead of it.
func putThere(t *testing.T, l *Lang, ahead string, e rank.Entry, in []int) {
	t.Helper()
	s := ahead + l.Vocab().Types[e.ID].Text
	types := munch.Types(munch.Seen(l.Vocab(), munch.Tokens(munch.All(l.Dfa(), s))))
	kept, _, _ := viable.Keep(l.Walk(), types, api.MaxBudget)
	if !slices.Equal(kept.Types(types), append(slices.Clone(in), e.ID)) {
		t.Fatal(s, e)
	}
}

// Tokens that are another text's never let a call panic.
func TestOddTokens(t *testing.T) {
	l := load(t, "s: ID*; ID: [a-z]+ -> word;")
	for _, x := range []api.Token{tok(0, -5, 2), tok(0, 7, 2), tok(0, math.MaxInt, 2), tok(0, math.MinInt, 2), tok(math.MaxInt, 0, 2), tok(-2, 9, 2), tok(0, 0, 99)} {
		if _, code := l.Of("ab", []api.Token{x, x}, offer.Want{}, nil, 4, 99); code != api.OK {
			t.Error(code)
		}
	}
}

func TestSame(t *testing.T) {
	a := Answer{Begun: "x", From: 1, Dropped: []api.Token{{}}, Wrong: []api.Token{{}}, Entries: []rank.Entry{{}}, Routes: [][][]int{{{1}}}, More: []bool{true}}
	if !a.Same(a) || !(Answer{}).Same(Answer{Routes: [][][]int{}}) {
		t.Error("same")
	}
	for i, change := range []func(*Answer){
		func(a *Answer) { a.Begun = "" }, func(a *Answer) { a.From = 2 }, func(a *Answer) { a.Dropped = nil }, func(a *Answer) { a.Wrong = []api.Token{{Type: 1}} }, func(a *Answer) { a.Entries = []rank.Entry{{Uses: 1}} },
		func(a *Answer) { a.Routes = [][][]int{{{2}}} }, func(a *Answer) { a.Routes = [][][]int{nil} }, func(a *Answer) { a.More = []bool{false} },
	} {
		b := a
		change(&b)
		if a.Same(b) || b.Same(a) {
			t.Error(i)
		}
	}
}

func BenchmarkComplete(b *testing.B) {
	l := load(b, "s: st* ; st: 'if' '(' e ')' st | ID '=' e ';' | ';'; e: p ('+' p)*; p: ID | N | '(' e ')' | ID '(' (e (',' e)*)? ')'; ID: [a-z] [a-z0-9]* -> word; N: [0-9]+; S: [ \\n]+ -> skip;")
	s := strings.Repeat("if (x + f(1, (y))) z = 5;\n", 600)
	for b.Loop() {
		if _, code := l.Complete(s, len(s), offer.Want{Rules: bits.Of(1)}, nil, 4, api.MaxBudget); code != api.OK {
			b.Fatal(code)
		}
	}
}
