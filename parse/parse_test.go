package parse

import (
	"math"
	"math/rand"
	"slices"
	"testing"

	"souffleur/api"
	"souffleur/arena"
	"souffleur/atn"
	"souffleur/cache"
	"souffleur/closure"
	"souffleur/gram"
	"souffleur/left"
	"souffleur/predict"
	"souffleur/sim"
	"souffleur/viable"
	"souffleur/vocab"
)

const lots = 1 << 30

func walk(t testing.TB, s string) (*closure.Walk, atn.Atn, []string) {
	t.Helper()
	g, stop := gram.Read(s)
	if stop.Code != api.OK {
		t.Fatal(s, stop)
	}
	v := vocab.Of(g)
	a, _ := atn.Of(g, v)
	a, code, _ := left.Ready(a)
	w, code2 := closure.New(a)
	if code != api.OK || code2 != api.OK {
		t.Fatal(s, code, code2)
	}
	var names []string
	for _, x := range v.Types {
		names = append(names, x.Text)
	}
	return w, a, names
}

func TestTrees(t *testing.T) {
	for _, c := range []struct {
		s, types, tree string
		whole          bool
		out            int
	}{
		{"a: 'x' a | 'x';", "xx", "(a x (a x))", true, 0},
		{"a: 'x' a | 'x';", "", "(a...", false, 0},
		{"a: 'x' a | 'y';", "x", "(a x...", false, 0},
		{"a: 'x' a | 'y';", "xyx", "(a x (a y))", true, 1},
		{"a: b? 'y'; b: 'x' c 'z'; c: | 'w';", "x", "(a (b x......", false, 0},
		{"a: b? 'y'; b: 'x' c 'z'; c: | 'w';", "xzy", "(a (b x (c) z) y)", true, 0},
		{"s: e; e: t ('+' t)*; t: 'n' | '(' e ')';", "n+(n+n)", "(s (e (t n) + (t ( (e (t n) + (t n)) ))))", true, 0},
		{"s: e; e: t ('+' t)*; t: 'n' | '(' e ')';", "(n+", "(s (e (t ( (e (t n) +............", false, 0},
		{"s: b | c; b: 'x' 'y'; c: 'x' 'z';", "xz", "(s (c x z))", true, 0},
		{"s: b | c; b: 'x' 'y'; c: 'x' 'z';", "x", "(s (b x......", false, 0},
		{"s: b | c; b: 'x'; c: 'x' 'z'?;", "x", "(s (b x))", true, 0},
		{"s: ;", "", "(s)", true, 0},
		{"s: 'x'? b; b: 'x'?;", "x", "(s x (b))", true, 0},
	} {
		w, a, names := walk(t, c.s)
		var types []int
		for _, x := range c.types {
			types = append(types, slices.Index(names, string(x)))
		}
		p, code := Parse(w, types, lots, nil)
		if code != api.OK || p.Tree.Text(a, names) != c.tree || p.Whole != c.whole || len(p.Kept.Out) != c.out {
			t.Errorf("%s: %s: %s, not %s %v %v", c.s, c.types, p.Tree.Text(a, names), c.tree, p.Whole, code)
		}
	}
}

// least goes all ways of types, the least choices first, and tells the first one that comes to its end.
func least(a atn.Atn, types []int, whole bool) ([]Choice, bool) {
	var on func(state int, rets, types []int, choices []Choice) ([]Choice, bool)
	on = func(state int, rets, types []int, choices []Choice) ([]Choice, bool) {
		if !whole && len(types) == 0 {
			return choices, true
		}
		if a.Stop[a.Owner[state]] == state {
			if n := len(rets) - 1; n >= 0 {
				return on(rets[n], rets[:n:n], types, choices)
			}
			return choices, len(types) == 0
		}
		for i, e := range a.Edges[state] {
			c := choices[:len(choices):len(choices)]
			if len(a.Edges[state]) > 1 {
				c = append(c, Choice{state, i})
			}
			var ok bool
			switch {
			case e.Kind == atn.Free:
				c, ok = on(e.To, rets, types, c)
			case e.Kind == atn.Call:
				c, ok = on(a.Start[e.Arg], append(rets[:len(rets):len(rets)], e.To), types, c)
			case len(types) > 0 && types[0] == e.Arg:
				c, ok = on(e.To, rets, types[1:], c)
			}
			if ok {
				return c, true
			}
		}
		return nil, false
	}
	return on(a.Start[0], nil, types, nil)
}

func grammars() []string {
	return []string{
		"a: 'x' a | 'x' | b 'y'; b: 'x' 'z'* | ;",
		"s: t ('+' t)*; t: '(' s ')' | 'n' | u u; u: 'm' | ;",
		"s: 'x' s 'y' | 'x' s | ;",
		"s: a b c; a: 'x'?; b: a a d; d: e | 'y'; e: a; c: 'w' s | 'z'?;",
		"s: a+; a: b | b 'y' | 'x' 'x'; b: 'x' | 'y'? 'z';",
	}
}

func TestLeastChoices(t *testing.T) {
	r := rand.New(rand.NewSource(17))
	for _, text := range grammars() {
		w, a, _ := walk(t, text)
		kept := cache.New(40)
		for i := range 400 {
			var types []int
			for range r.Intn(9 + i%2*8) {
				types = append(types, r.Intn(a.Types+1)-r.Intn(2)*r.Intn(2))
			}
			before := slices.Clone(types)
			p, code := Parse(w, types, lots, nil)
			if code != api.OK || !slices.Equal(types, before) {
				t.Fatal(text, types, code)
			}
			in := p.Kept.Types(types)
			want, ok := least(a, in, p.Whole)
			if !ok || !slices.Equal(p.Choices, want) || !p.Tree.Right() || !slices.Equal(p.Tree.Leaves(), in) || p.Tree.Nodes[0].Open == p.Whole || p.Tree.Nodes[0].Arg != 0 {
				t.Fatal(text, types, p, want)
			}
			if x, code := Again(w, in, p.Choices, p.Whole); code != api.OK || !x.Same(p.Tree) {
				t.Fatal(text, types, code)
			}
			_, sim, _ := viable.Keep(w, types, lots)
			for _, most := range []int{sim.Steps(), 2 * sim.Steps(), 9 * sim.Steps()} {
				// Where there are few steps, each look goes to the last token.
				if q, code := Parse(w, types, most, nil); code != api.OK && code != api.ErrBudget || code == api.OK && !same(p, q) {
					t.Fatal(text, types, most, code)
				}
			}
			if whole, ok := least(a, in, true); ok != p.Whole || ok && !slices.Equal(whole, p.Choices) {
				t.Fatal(text, types)
			}
			q, code := Parse(w, types, lots, kept)
			q2, code2 := Parse(w, types, lots, kept)
			if code != api.OK || code2 != api.OK || !same(p, q) || !same(p, q2) {
				t.Fatal(text, types, "cache")
			}
		}
		if kept.Stats()[0] == 0 || kept.Long() == 0 {
			t.Error("nothing was kept")
		}
	}
}

// TestBudget: with any number of steps the error is that of the tokens that are kept, or of the first choice that has one.
func TestBudget(t *testing.T) {
	r := rand.New(rand.NewSource(19))
	texts := append(grammars(), "s: r r t*; r: x 'y'? | ; x: 'z'? ; t: x 'w' r;", "s: a a a 'q'; a: b c | c b | ; b: c? 'x'; c: 'y'? d; d: 'z' | ;")
	for _, text := range texts {
		w, a, _ := walk(t, text)
		for range 8 {
			var types []int
			for range r.Intn(12) {
				types = append(types, r.Intn(a.Types))
			}
			kept, s, _ := viable.Keep(w, types, lots)
			for most := range 6 * s.Steps() {
				if most > 40 && r.Intn(20) > 0 {
					continue
				}
				_, _, want := viable.Keep(w, types, most)
				if want == api.OK {
					y := newWay(a, kept.Types(types), s.Ends())
					want = y.run(func() (int, api.Errno) { return predict.Choose(w, y.spot, y.types, y.whole, most) })
				}
				if _, code := Parse(w, types, most, nil); code != want {
					t.Fatal(text, types, most, code, want)
				}
			}
		}
	}
}

// TestLongSentences: looks that end as soon as they tell enough tell what looks to the last token do.
func TestLongSentences(t *testing.T) {
	r := rand.New(rand.NewSource(18))
	for _, text := range grammars() {
		w, a, _ := walk(t, text)
		for range 25 {
			s, _ := sim.New(w, lots)
			var types []int
			for range 20 + r.Intn(60) {
				l := s.Offers().List()
				if len(l) == 0 {
					break
				}
				types = append(types, l[r.Intn(len(l))])
				s.Feed(types[len(types)-1])
			}
			p, code := Parse(w, types, lots, nil)
			if code != api.OK || len(p.Kept.Out) != 0 {
				t.Fatal(text, types, code)
			}
			y := newWay(a, types, p.Whole)
			var direct []Choice
			code = y.run(func() (int, api.Errno) {
				edge, code := predict.Choose(w, y.spot, y.types, y.whole, lots)
				direct = append(direct, Choice{y.spot.State, edge})
				return edge, code
			})
			if code != api.OK || !slices.Equal(direct, p.Choices) || !y.m.Tree().Same(p.Tree) {
				t.Fatal(text, types, p.Choices, direct)
			}
		}
	}
}

func same(a, b Parsed) bool {
	return slices.Equal(a.Kept.In, b.Kept.In) && slices.Equal(a.Kept.Out, b.Kept.Out) && a.Tree.Same(b.Tree) && slices.Equal(a.Choices, b.Choices) && a.Whole == b.Whole
}

func TestErrors(t *testing.T) {
	w, a, _ := walk(t, grammars()[0])
	for _, x := range []*closure.Walk{nil, {}} {
		p, code := Parse(x, []int{0}, lots, nil)
		tree, code2 := Again(x, nil, nil, false)
		if code != api.ErrNil || code2 != api.ErrNil || !same(p, Parsed{}) || !tree.Same(arena.Tree{}) {
			t.Error(code, code2)
		}
	}
	types := []int{0, 0, 0, 1, 0, 7}
	told := false
	for most := -1; ; most++ {
		p, code := Parse(w, types, most, nil)
		if code == api.OK {
			break
		}
		told = true
		if code != api.ErrBudget || !same(p, Parsed{}) {
			t.Fatal(most, code)
		}
	}
	if !told || a.Long() == 0 {
		t.Error("budget")
	}
}

func TestAgain(t *testing.T) {
	w, a, _ := walk(t, "a: 'x' a | 'y' b; b: 'z'?;")
	p, _ := Parse(w, []int{0, 1}, lots, nil)
	if !p.Whole || len(p.Choices) != 3 {
		t.Fatal(p)
	}
	c := p.Choices
	at := func(i, state, edge int) []Choice {
		l := slices.Clone(c)
		l[i] = Choice{state, edge}
		return l
	}
	none := slices.IndexFunc(a.Edges, func(l []atn.Edge) bool { return len(l) == 1 })
	for i, x := range []struct {
		types   []int
		choices []Choice
		whole   bool
		want    api.Errno
	}{
		{[]int{0, 1}, c, true, api.OK}, {[]int{0, 1}, c[:2], false, api.OK}, {nil, nil, false, api.OK}, {nil, nil, true, api.ErrEnd}, {[]int{0, 1}, c[:2], true, api.ErrEnd}, {[]int{0, 1}, nil, false, api.ErrEnd},
		{[]int{0, 1}, at(0, c[0].State+1, 0), true, api.ErrArg}, {[]int{0, 1}, at(0, none, 0), true, api.ErrArg}, {[]int{0, 1}, at(1, c[1].State, 2), true, api.ErrArg}, {[]int{0, 1}, at(1, c[1].State, -1), true, api.ErrArg},
		{[]int{0, 1}, at(0, math.MaxInt, 0), true, api.ErrArg}, {[]int{0, 1}, at(0, c[0].State, math.MinInt), true, api.ErrArg},
		{[]int{1, 1}, c, true, api.ErrKind}, {[]int{0}, c, true, api.ErrKind}, {[]int{-1}, c, false, api.ErrKind}, {[]int{0, 1, 1}, c, true, api.ErrState}, {[]int{0, 1, 1}, c, false, api.ErrState},
		{[]int{0, 1}, append(slices.Clone(c), c[0]), true, api.ErrState}, {[]int{0, 1}, c, false, api.ErrState}, {nil, c, false, api.ErrState}, {[]int{0, 1, 2}, at(2, c[2].State, 0), true, api.OK},
	} {
		tree, code := Again(w, x.types, x.choices, x.whole)
		if code != x.want || code == api.OK != tree.Right() {
			t.Error(i, code, x.want)
		}
	}
}

// A way that goes by more edges than may be is given up.
func TestTooManyEdges(t *testing.T) {
	w, a, _ := walk(t, "a: 'x'*;")
	var choice Choice
	for s := range a.Edges {
		if a.Decides(s) {
			choice.State = s
		}
	}
	types := make([]int, 1<<19)
	choices := make([]Choice, 1<<19)
	for i := range choices {
		choices[i] = choice
	}
	if _, code := Again(w, types, choices, false); code != api.ErrBudget {
		t.Error(code)
	}
	n := (1<<20 - 1) / 3
	if _, code := Again(w, types[:n], choices[:n], false); code != api.OK {
		t.Error(code)
	}
}

func TestKey(t *testing.T) {
	seen := map[string]int{}
	n := 0
	lists := [][]int{nil, {0}, {0, 0}, {1}, {0, 1}, {1, 0}, {127}, {128}, {-1}, {math.MaxInt}, {math.MinInt}, {2, 0}, {300, 1}, {44, 2, 1}}
	for _, state := range []int{0, 1, 2, 127, 128, 255, 256, 1 << 40, -1, math.MaxInt, math.MinInt} {
		for _, rets := range lists {
			for _, types := range lists {
				for _, whole := range []bool{false, true} {
					n++
					seen[Key(state, rets, types, whole)]++
					if Key(state, slices.Clone(rets), slices.Clone(types), whole) != Key(state, rets, types, whole) {
						t.Error("alike")
					}
				}
			}
		}
	}
	if len(seen) != n || Key(0, nil, nil, false) != Key(0, []int{}, []int{}, false) {
		t.Error(len(seen), n)
	}
}

// A cache in which others put something, or that no call made, never lets a call panic.
func TestOddCaches(t *testing.T) {
	w, a, _ := walk(t, grammars()[0])
	c := cache.New(9)
	var start int
	for s := range a.Edges {
		if a.Decides(s) {
			start = s
			break
		}
	}
	c.Put(Key(start, nil, []int{0}, true), math.MaxInt)
	c.Put(Key(start, nil, []int{0}, false), -5)
	p, code := Parse(w, []int{0}, lots, c)
	q, code2 := Parse(w, []int{0}, lots, &cache.Cache{})
	if code != api.OK || code2 != api.OK || !same(p, q) {
		t.Error(code, code2)
	}
}

func BenchmarkParse(b *testing.B) {
	w, _, names := walk(b, "s: v; v: o | l | 'n' | 't' | 'q'; o: '{' (p (',' p)*)? '}'; p: 'q' ':' v; l: '[' (v (',' v)*)? ']';")
	var types []int
	text := "["
	for range 60 {
		text += "{q:n,q:[n,t,q,[n]]},"
	}
	for _, c := range text + "n]" {
		types = append(types, slices.Index(names, string(c)))
	}
	for b.Loop() {
		if p, code := Parse(w, types, lots, nil); code != api.OK || !p.Whole || len(p.Kept.Out) > 0 {
			b.Fatal(code)
		}
	}
	b.ReportMetric(float64(len(types)), "tokens")
}
