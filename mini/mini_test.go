package mini

import (
	"math/rand"
	"slices"
	"testing"

	"souffleur/api"
	"souffleur/bits"
	"souffleur/dfa"
	"souffleur/gram"
	"souffleur/nfa"
	"souffleur/vocab"
)

// mv tells a move.
func mv(lo, hi rune, to int) dfa.Move { return dfa.Move{Lo: lo, Hi: hi, To: to} }

// signs is how many numbers the random automata know.
const signs = 6

// random tells an automaton over a few signs, of which some moves touch, some are none.
func random(r *rand.Rand, states int) dfa.Dfa {
	d := dfa.Dfa{Moves: make([][]dfa.Move, states), Accepts: make([]bits.Set, states)}
	for i := range states {
		for c := rune(0); c < signs; c++ {
			if r.Intn(3) > 0 {
				hi := min(c+rune(r.Intn(3)), signs-1)
				d.Moves[i] = append(d.Moves[i], mv(c, hi, r.Intn(states)))
				c = hi
			}
		}
		switch r.Intn(6) {
		case 0:
			d.Accepts[i] = bits.Of(1)
		case 1:
			d.Accepts[i] = bits.Set{2, 0}
		case 2:
			d.Accepts[i] = bits.Of(0, 70)
		case 3:
			d.Accepts[i] = bits.Set{0}
		}
	}
	return d
}

// unlike tells, pair by pair, which states are not alike, by the words of the chapter; the number behind the last state is that of no move.
func unlike(d dfa.Dfa) [][]bool {
	n := d.Long()
	out := make([][]bool, n+1)
	for i := range out {
		out[i] = make([]bool, n+1)
		for j := range out[i] {
			out[i][j] = !d.Ends(i).Same(d.Ends(j))
		}
	}
	to := func(s int, c rune) int {
		if x := d.Step(s, c); x >= 0 {
			return x
		}
		return n
	}
	for more := true; more; {
		more = false
		for i := range out {
			for j := range out {
				for c := rune(0); c < signs && !out[i][j]; c++ {
					if out[to(i, c)][to(j, c)] {
						out[i][j], more = true, true
					}
				}
			}
		}
	}
	return out
}

func check(t *testing.T, d dfa.Dfa) {
	t.Helper()
	n := d.Long()
	un := unlike(d)
	dead, met, alike := Dead(d), Met(d), Alike(d)
	come := make([]bool, n)
	come[0] = true
	for range n {
		for i := range n {
			for _, m := range d.Moves[i] {
				come[m.To] = come[m.To] || come[i]
			}
		}
	}
	classes := map[int]bool{}
	for i := range n {
		first := slices.Index(un[i], false)
		if first == n {
			t.Fatal("none is alike", i)
		}
		if dead[i] == un[i][n] || met[i] != come[i] || alike[i] != first {
			t.Fatal(d, i, dead[i], met[i], alike[i], first)
		}
		if met[i] && !dead[i] {
			classes[first] = true
		}
	}
	classes[alike[0]] = true
	m := Of(d)
	if !m.Right() || m.Long() != len(classes) {
		t.Fatal(d, m, len(classes))
	}
	// Side by side from the beginning on, each state is met with all that stand for it.
	pairs := [][2]int{{0, 0}}
	for i := 0; i < len(pairs); i++ {
		a, b := pairs[i][0], pairs[i][1]
		if b >= 0 && (!m.Ends(b).Same(d.Ends(a)) || len(m.Accepts[b]) != len(m.Ends(b))) || b < 0 && a >= 0 && !dead[a] {
			t.Fatal(d, m, a, b)
		}
		for c := rune(0); c < signs; c++ {
			p := [2]int{d.Step(a, c), m.Step(b, c)}
			if p[0] < 0 && p[1] >= 0 {
				t.Fatal(d, m, "a move too many")
			}
			if p[0] >= 0 && !slices.Contains(pairs, p) {
				pairs = append(pairs, p)
			}
		}
	}
	inOrder(t, m)
	again := Of(m)
	if !same(m, again) {
		t.Fatal(m, again)
	}
}

// inOrder: states are numbered as they are met, moves rise, and those that touch go to others.
func inOrder(t *testing.T, m dfa.Dfa) {
	t.Helper()
	next := 1
	for i := range m.Long() {
		for k, x := range m.Moves[i] {
			if x.To > next || k > 0 && m.Moves[i][k-1].Hi+1 == x.Lo && m.Moves[i][k-1].To == x.To {
				t.Fatal(m)
			}
			if x.To == next {
				next++
			}
		}
	}
	if next != m.Long() {
		t.Fatal(m)
	}
}

func same(a, b dfa.Dfa) bool {
	return slices.EqualFunc(a.Moves, b.Moves, func(x, y []dfa.Move) bool { return slices.Equal(x, y) }) && slices.EqualFunc(a.Accepts, b.Accepts, bits.Set.Same)
}

func TestRandom(t *testing.T) {
	r := rand.New(rand.NewSource(1))
	for i := 0; i < 3000; i++ {
		check(t, random(r, 1+r.Intn(9)))
	}
}

func TestExample(t *testing.T) {
	end := []bits.Set{bits.Of(3), bits.Of(3)}
	d := dfa.Dfa{Moves: [][]dfa.Move{{mv('a', 'a', 1)}, {mv('a', 'a', 0)}}, Accepts: end}
	if m := Of(d); !same(m, dfa.Dfa{Moves: [][]dfa.Move{{mv('a', 'a', 0)}}, Accepts: end[:1]}) {
		t.Error(m)
	}
	// One that leads to no end is one state, without moves.
	d = dfa.Dfa{Moves: [][]dfa.Move{{mv('a', 'a', 1)}, {mv('a', 'a', 0)}}, Accepts: make([]bits.Set, 2)}
	if m := Of(d); m.Long() != 1 || len(m.Moves[0]) != 0 || !slices.Equal(Alike(d), []int{0, 0}) {
		t.Error(m)
	}
}

func TestNotRight(t *testing.T) {
	for _, d := range []dfa.Dfa{{}, {Moves: [][]dfa.Move{{mv(0, 0, 5)}}, Accepts: []bits.Set{nil}}, {Moves: [][]dfa.Move{nil}}} {
		if Of(d).Long() != 0 || len(Of(d).Moves) != 0 || len(Alike(d)) != 0 || len(Dead(d)) != 0 || len(Met(d)) != 0 {
			t.Error(d)
		}
	}
}

func TestOfGrammars(t *testing.T) {
	g, _ := gram.Read("s: 'if' 'in' ID; ID: [a-z] [a-z0-9]* -> word; N: [0-9]+ ('.' [0-9]+)?; S: [ \\n]+ -> skip; C: '/*' (~[*] | '*'+ ~[*/])* '*'+ '/';")
	n, _ := nfa.Build(g, vocab.Of(g))
	d, _ := dfa.Of(n)
	m := Of(d)
	for _, s := range []string{"if", "in", "i", "ifx", "x9", "9", "9.", "9.9", " \n ", "/**/", "/***/", "/*a*", "/*\xe2\x82\xac**a*/"} {
		if !m.Ends(m.Run(s)).Same(n.Accepts(s)) {
			t.Error(s)
		}
	}
	if !same(Of(m), m) || m.Long() >= d.Long() {
		t.Error(d.Long(), m.Long())
	}
}

func TestLongChain(t *testing.T) {
	d := dfa.Dfa{Moves: make([][]dfa.Move, api.MaxStates), Accepts: make([]bits.Set, api.MaxStates)}
	for i := range api.MaxStates - 1 {
		d.Moves[i] = []dfa.Move{mv('a', 'a', i+1), mv('b', 'b', i/2)}
	}
	d.Accepts[api.MaxStates-1] = bits.Of(0)
	if m := Of(d); !same(m, d) {
		t.Error(m.Long())
	}
	d.Accepts[0] = bits.Of(0)
	d.Moves[0][0].To = 0
	d.Moves[0][1].To = api.MaxStates - 1
	if m := Of(d); m.Long() != 2 {
		t.Error(m.Long())
	}
}

func TestNothingIsChanged(t *testing.T) {
	r := rand.New(rand.NewSource(2))
	for range 100 {
		d := random(r, 6)
		var c dfa.Dfa
		for i := range d.Moves {
			c.Moves = append(c.Moves, slices.Clone(d.Moves[i]))
			c.Accepts = append(c.Accepts, slices.Clone(d.Accepts[i]))
		}
		m := Of(d)
		for i := range m.Moves {
			for k := range m.Moves[i] {
				m.Moves[i][k].To = -9
			}
			for k := range m.Accepts[i] {
				m.Accepts[i][k] = 77
			}
		}
		if !slices.EqualFunc(d.Moves, c.Moves, func(x, y []dfa.Move) bool { return slices.Equal(x, y) }) || !slices.EqualFunc(d.Accepts, c.Accepts, func(x, y bits.Set) bool { return slices.Equal(x, y) }) {
			t.Fatal("changed")
		}
	}
}
