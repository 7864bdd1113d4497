package whole

import (
	"cmp"
	"math/rand"
	"slices"
	"strconv"
	"strings"
	"testing"

	"souffleur/api"
	"souffleur/atn"
	"souffleur/audit"
	"souffleur/bits"
	"souffleur/complete"
	"souffleur/edit"
	"souffleur/model"
	"souffleur/munch"
	"souffleur/offer"
	"souffleur/parse"
	"souffleur/rank"
	"souffleur/relex"
	"souffleur/session"
	"souffleur/show"
	"souffleur/sim"
	"souffleur/viable"
)

// element tells a random element of a lower rule.
func element(r *rand.Rand, rules, deep int) string {
	var s string
	switch n := r.Intn(10); {
	case n < 4:
		s = []string{"'a'", "'b'", "'ab'", "ID", "N"}[r.Intn(5)]
	case n < 7 || deep == 0:
		s = "r" + strconv.Itoa(r.Intn(rules))
	default:
		s = "(" + choices(r, rules, deep-1) + ")"
	}
	return s + []string{"", "", "", "?", "*", "+"}[r.Intn(6)]
}

func choices(r *rand.Rand, rules, deep int) string {
	var rows []string
	for range 1 + r.Intn(3) {
		var row []string
		for range r.Intn(4) {
			row = append(row, element(r, rules, deep))
		}
		rows = append(rows, strings.Join(row, " "))
	}
	return strings.Join(rows, " | ")
}

// grammar tells a random one that is accepted.
func grammar(r *rand.Rand) (string, *complete.Lang) {
	for {
		rules := 1 + r.Intn(4)
		s := ""
		for i := range rules {
			s += "r" + strconv.Itoa(i) + ": " + choices(r, rules, 2) + ";\n"
		}
		s += "ID: [a-c]+ -> word; N: [0-9]+; S: ' '+ -> skip; H: '#' -> hidden;"
		if l, f := complete.Load(s); f.Code == api.OK {
			return s, l
		}
	}
}

func text(r *rand.Rand, most int) string {
	s := ""
	for range r.Intn(most + 1) {
		s += []string{"a", "b", "ab", "c", " ", " ", "7", "#", "?", "\xe2\x82\xac", "\x82"}[r.Intn(11)]
	}
	return s
}

// call is one that is open: where it goes back to, its rule, and the place where it begins.
type call struct{ ret, rule, place int }

// ways goes all ways through some types, one by one, each with its own open calls, up to where there were too many.
type ways struct {
	a       atn.Atn
	types   []int
	left    int
	prefers bits.Set
	offered bits.Set
	ends    bool
	rows    map[int][][]int
}

func (w *ways) on(state, at int, open []call) {
	if w.left--; w.left < 0 {
		return
	}
	last := len(open) - 1
	if w.a.Stop[w.a.Owner[state]] == state {
		if last == 0 {
			w.ends = w.ends || at == len(w.types)
		} else {
			w.on(open[last].ret, at, open[:last:last])
		}
	}
	within := slices.ContainsFunc(open, func(c call) bool { return c.place == len(w.types) && w.prefers.Has(c.rule) })
	for _, e := range w.a.Edges[state] {
		switch e.Kind {
		case atn.Free:
			w.on(e.To, at, open)
		case atn.Token:
			if at < len(w.types) && w.types[at] == e.Arg {
				w.on(e.To, at+1, open)
			} else if at == len(w.types) && !within {
				w.offered = w.offered.With(e.Arg)
			}
		case atn.Call:
			if at == len(w.types) && w.prefers.Has(e.Arg) && !within {
				row := []int{e.Arg}
				for i := last; i >= 0; i-- {
					row = append(row, open[i].rule)
				}
				w.rows[e.Arg] = append(w.rows[e.Arg], row)
			}
			w.on(w.a.Start[e.Arg], at, append(open[:len(open):len(open)], call{e.To, e.Arg, at}))
		}
	}
}

// gone goes all ways, and tells whether there were not too many.
func gone(a atn.Atn, types []int, prefers bits.Set) (*ways, bool) {
	w := &ways{a: a, types: types, left: 100000, prefers: prefers, rows: map[int][][]int{}}
	if len(types) == 0 && prefers.Has(0) {
		w.rows[0] = [][]int{{0}}
	}
	w.on(a.Start[0], 0, []call{{-1, 0, 0}})
	for rule, rows := range w.rows {
		slices.SortFunc(rows, func(x, y []int) int { return cmp.Or(cmp.Compare(len(x), len(y)), slices.Compare(x, y)) })
		rows = slices.CompactFunc(rows, func(x, y []int) bool { return slices.Equal(x, y) })
		for _, row := range rows {
			slices.Reverse(row)
		}
		w.rows[rule] = rows
	}
	return w, w.left >= 0
}

// TestOffers: W1, W2, W3, W4 and W6.
func TestOffers(t *testing.T) {
	r := rand.New(rand.NewSource(31))
	done, rows := 0, 0
	for range 500 {
		g, l := grammar(r)
		a := l.Walk().Atn()
		for range 12 {
			s := text(r, 7)
			var w offer.Want
			if r.Intn(2) == 0 {
				w.Rules = bits.Of(r.Intn(4), r.Intn(4), r.Intn(9))
			}
			if r.Intn(3) == 0 {
				w.Less = bits.Of(r.Intn(5))
			}
			w.NoEnd = r.Intn(4) == 0
			most := r.Intn(6)
			got, code := l.Complete(s, len(s), w, nil, most, api.MaxBudget)
			if code != api.OK {
				t.Fatal(g, s, code)
			}
			in := ahead(t, l, s, got)
			x, ok := gone(a, in, w.Rules)
			if !ok {
				continue
			}
			done++
			x.offered = x.offered.Less(w.Less)
			rows += held(t, g+"\n"+s, l, got, x, w, most)
			for i, e := range got.Entries {
				if e.Clean {
					putThere(t, l, s[:got.From], e, in, got)
				}
				if i > 0 && rank.Ahead(e, got.Entries[i-1]) {
					t.Fatal(g, s, "order")
				}
			}
			if flaws := audit.Check(l, s, len(s), w, got); most == 4 && len(flaws) > 0 {
				t.Fatal(g, s, flaws)
			}
		}
	}
	if done < 3000 || rows < 500 {
		t.Error(done, rows)
	}
}

// ahead holds the tokens of an answer against those of the text, and tells the types that are kept.
func ahead(t *testing.T, l *complete.Lang, s string, a complete.Answer) []int {
	t.Helper()
	tokens := munch.Tokens(munch.All(l.Dfa(), s))
	if n := len(tokens) - 1; n >= 0 && tokens[n].Type >= 0 && l.Vocab().Types[tokens[n].Type].Word {
		if a.From != tokens[n].At || a.Begun != s[a.From:] {
			t.Fatal(s, a)
		}
		tokens = tokens[:n]
	} else if a.Begun != "" || a.From != len(s) {
		t.Fatal(s, a)
	}
	var in []int
	for _, x := range tokens {
		if x.Type < 0 || !l.Vocab().Visible(x.Type) {
			continue
		}
		if slices.Contains(a.Dropped, x) {
			continue
		}
		in = append(in, x.Type)
	}
	if ok, _ := viable.Prefix(l.Walk(), in, api.MaxBudget); !ok {
		t.Fatal(s, a)
	}
	return in
}

// held holds an answer against all ways.
func held(t *testing.T, told string, l *complete.Lang, a complete.Answer, x *ways, w offer.Want, most int) int {
	t.Helper()
	begins := func(ty int) bool { return a.Begun == "" || l.Live().Begins(a.Begun).Has(ty) }
	for ty := range l.Vocab().Long() {
		if want := x.offered.Has(ty) && begins(ty); want != (rank.Find(a.Entries, rank.Token, ty) >= 0) {
			t.Fatal(told, "type", ty, want)
		}
	}
	if want := x.ends && !w.NoEnd && a.Begun == ""; want != (rank.Find(a.Entries, rank.End, -1) >= 0) {
		t.Fatal(told, "end", want)
	}
	n := 0
	for rule := range 9 {
		rows := x.rows[rule]
		want := len(rows) > 0
		if want && a.Begun != "" {
			want = slices.ContainsFunc(l.Follow().First[rule].List(), begins)
		}
		i := rank.Find(a.Entries, rank.Rule, rule)
		if want != (i >= 0) {
			t.Fatal(told, "rule", rule, want)
		}
		if !want {
			continue
		}
		k := min(most, len(rows))
		n += k
		if !slices.EqualFunc(a.Routes[i], rows[:k], func(x, y []int) bool { return slices.Equal(x, y) }) || a.More[i] != (len(rows) > k) {
			t.Fatal(told, rule, a.Routes[i], rows, a.More[i])
		}
	}
	return n
}

// putThere: what is clean, taken, is kept, and changes nothing ahead of it.
func putThere(t *testing.T, l *complete.Lang, s string, e rank.Entry, in []int, a complete.Answer) {
	t.Helper()
	put := l.Vocab().Types[e.ID].Text
	if !relex.Clean(l.Dfa(), l.Vocab(), s, put, e.ID) {
		t.Fatal(s, e)
	}
	types := munch.Types(munch.Seen(l.Vocab(), munch.Tokens(munch.All(l.Dfa(), s+put))))
	kept, _, _ := viable.Keep(l.Walk(), types, api.MaxBudget)
	if !slices.Equal(kept.Types(types), append(slices.Clone(in), e.ID)) || len(kept.Out) != len(a.Dropped) {
		t.Fatal(s, e)
	}
}

// least goes all ways of types, the least choices first, and tells the first one that comes to its end; false, where there were too many.
func least(a atn.Atn, types []int, whole bool) ([]parse.Choice, bool) {
	left := 100000
	var on func(state int, rets, types []int, choices []parse.Choice) ([]parse.Choice, bool)
	on = func(state int, rets, types []int, choices []parse.Choice) ([]parse.Choice, bool) {
		if left--; left < 0 || !whole && len(types) == 0 {
			return choices, true
		}
		if a.Stop[a.Owner[state]] == state {
			if n := len(rets) - 1; n >= 0 {
				return on(rets[n], rets[:n:n], types, choices)
			}
			return choices, len(types) == 0
		}
		for i, e := range a.Edges[state] {
			c := choices[:len(choices):len(choices)]
			if a.Decides(state) {
				c = append(c, parse.Choice{State: state, Edge: i})
			}
			ok := false
			switch {
			case e.Kind == atn.Free:
				c, ok = on(e.To, rets, types, c)
			case e.Kind == atn.Call:
				c, ok = on(a.Start[e.Arg], append(rets[:len(rets):len(rets)], e.To), types, c)
			case len(types) > 0 && types[0] == e.Arg:
				c, ok = on(e.To, rets, types[1:], c)
			}
			if ok {
				return c, true
			}
		}
		return nil, false
	}
	c, ok := on(a.Start[0], nil, types, nil)
	return c, ok && left >= 0
}

// TestTrees: W5 and W9.
func TestTrees(t *testing.T) {
	r := rand.New(rand.NewSource(32))
	done := 0
	for range 400 {
		g, l := grammar(r)
		a := l.Walk().Atn()
		for range 8 {
			var types []int
			for range r.Intn(8) {
				types = append(types, r.Intn(l.Vocab().Long()))
			}
			p, code := parse.Parse(l.Walk(), types, api.MaxBudget, nil)
			in := p.Kept.Types(types)
			whole, _ := viable.Sentence(l.Walk(), in, api.MaxBudget)
			if code != api.OK || p.Whole != whole || !p.Tree.Right() || !slices.Equal(p.Tree.Leaves(), in) || p.Tree.Nodes[0].Open == whole {
				t.Fatal(g, types, p, code)
			}
			if want, ok := least(a, in, whole); ok {
				done++
				if !slices.Equal(want, p.Choices) {
					t.Fatal(g, types, p.Choices, want)
				}
			}
			again, code := parse.Again(l.Walk(), in, p.Choices, whole)
			if code != api.OK || !again.Same(p.Tree) {
				t.Fatal(g, types, code)
			}
			_, s, _ := viable.Keep(l.Walk(), types, api.MaxBudget)
			if n := s.Long(); s.Nodes() > a.Long()*(n+1)+1 || s.Steps() > sim.Budget(a.Long(), n) {
				t.Fatal(g, types, s.Nodes(), s.Steps())
			}
		}
	}
	if done < 2000 {
		t.Error(done)
	}
}

// TestSessions: W7 and W8.
func TestSessions(t *testing.T) {
	r := rand.New(rand.NewSource(33))
	for range 60 {
		g, l := grammar(r)
		s := session.New(r.Intn(4))
		s.Load(g)
		now := ""
		for range 40 {
			at := r.Intn(len(now) + 1)
			e := edit.Edit{At: at, Cut: r.Intn(min(4, len(now)-at) + 2), Put: text(r, 2)}
			next, code := edit.Apply(now, e)
			if got := s.Edit(e); got != code {
				t.Fatal(g, now, e, got)
			}
			if code == api.OK {
				now = next
			}
			if s.Text() != now || !slices.Equal(s.Tokens(), munch.Tokens(munch.All(l.Dfa(), now))) {
				t.Fatal(g, now)
			}
			for range 3 {
				caret := r.Intn(len(now) + 1)
				a, code := s.Complete(caret)
				b, code2 := l.Complete(now, caret, offer.Want{}, nil, 4, api.MaxBudget)
				if code != code2 || !a.Same(b) {
					t.Fatal(g, now, caret)
				}
			}
			p, code := s.Parse()
			q, code2 := parse.Parse(l.Walk(), munch.Types(munch.Seen(l.Vocab(), s.Tokens())), api.MaxBudget, nil)
			if code != code2 || !p.Tree.Same(q.Tree) || !slices.Equal(p.Choices, q.Choices) || p.Whole != q.Whole {
				t.Fatal(g, now)
			}
		}
	}
}

// TestModels: sentences that are told one by one are just those, and what finishes a beginning does.
func TestModels(t *testing.T) {
	r := rand.New(rand.NewSource(34))
	for range 150 {
		g, l := grammar(r)
		rows, _, code := model.All(l.Walk(), 4, 1000)
		if code == api.ErrBig {
			continue
		}
		for _, row := range rows {
			if ok, _ := viable.Sentence(l.Walk(), row, api.MaxBudget); !ok {
				t.Fatal(g, row)
			}
			for n := range row {
				tail, ok := model.Finish(l.Walk(), row[:n], 4)
				if !ok || len(tail) > len(row)-n || len(tail) == len(row)-n && slices.Compare(tail, row[n:]) > 0 {
					t.Fatal(g, row, n, tail)
				}
			}
		}
		if x, f := complete.Load(show.Text(l.Grammar())); f.Code != api.OK || !x.Grammar().Same(l.Grammar()) {
			t.Fatal(g, f)
		}
	}
}
