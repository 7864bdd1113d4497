package relex

import (
	"math"
	"slices"
	"testing"

	"souffleur/api"
	"souffleur/dfa"
	"souffleur/gram"
	"souffleur/nfa"
	"souffleur/vocab"
)

func of(t *testing.T, s string) (dfa.Dfa, vocab.Vocab) {
	t.Helper()
	g, stop := gram.Read(s)
	if stop.Code != api.OK {
		t.Fatal(s, stop)
	}
	v := vocab.Of(g)
	n, _ := nfa.Build(g, v)
	d, _ := dfa.Of(n)
	return d, v
}

const text = "s: 'if' ID '(' '((' C; ID: [a-z]+ -> word; S: ' '+ -> skip; H: '#' ~[\\n]* -> hidden; C: '<' ~[>]* '>';"

func TestSeen(t *testing.T) {
	d, v := of(t, text)
	ifs, open, double, id := v.Literal("if"), v.Literal("("), v.Literal("(("), v.Rule(1)
	for _, c := range []struct {
		s     string
		types []int
		wrong int
	}{
		{"", nil, 0}, {"if x", []int{ifs, id}, 0}, {"ifx", []int{id}, 0}, {"(((", []int{double, open}, 0}, {"?x !# if", []int{id}, 2}, {"\xff\xe2\x82", nil, 3}, {"<if", []int{ifs}, 1},
	} {
		if types, wrong := Seen(d, v, c.s); !slices.Equal(types, c.types) || wrong != c.wrong {
			t.Errorf("%q: %v %d", c.s, types, wrong)
		}
	}
	if types, wrong := Seen(dfa.Dfa{}, vocab.Vocab{}, "abc"); len(types) != 0 || wrong != 0 {
		t.Error(types, wrong)
	}
}

func TestClean(t *testing.T) {
	d, v := of(t, text)
	ifs, open, double, id := v.Literal("if"), v.Literal("("), v.Literal("(("), v.Rule(1)
	for _, c := range []struct {
		ahead, put   string
		t            int
		clean, glued bool
	}{
		{"", "if", ifs, true, false}, {"x", "if", ifs, false, true}, {"x ", "if", ifs, true, false}, {"x", "(", open, true, false}, {"(", "(", open, false, true}, {"x", "((", double, true, false},
		{"((", "(", open, true, false}, {"# y", "if", ifs, false, false}, {"# y\n", "if", ifs, true, false}, {"# y\n", "if", id, false, false}, {"?", "x", id, true, false}, {"x", "?", id, false, false},
		{"", "", id, false, false}, {"", "if x", ifs, false, false}, {"", " x ", id, true, false}, {"<a", ">", id, false, false}, {"<", "x", id, true, false}, {"\xe2\x82", "\xac", id, false, false},
		{"x", "if", -1, false, false}, {"x", "if", math.MaxInt, false, false}, {"i", "f", ifs, false, false}, {"i", "f", id, false, true},
	} {
		clean, glued := Clean(d, v, c.ahead, c.put, c.t), Glued(d, v, c.ahead, c.put, c.t)
		if clean != c.clean || glued != c.glued {
			t.Errorf("%q %q %d: %v %v", c.ahead, c.put, c.t, clean, glued)
		}
	}
	for ty, x := range v.Types {
		if x.Rule == -1 && Clean(d, v, "", x.Text, ty) != (d.Type(d.Run(x.Text)) == ty) {
			t.Error(ty)
		}
	}
}

// What is clean is one token more, that is seen.
func TestOneMore(t *testing.T) {
	d, v := of(t, text)
	pieces := []string{"if", "x", " ", "(", "#", "\n", "<", ">", "?"}
	for n := 0; n < 6561; n++ {
		ahead := ""
		for k := n; k > 0; k /= 9 {
			ahead += pieces[k%9]
		}
		for _, put := range pieces {
			for ty := range v.Long() {
				before, wrong := Seen(d, v, ahead)
				after, wrong2 := Seen(d, v, ahead+put)
				want := len(after) == len(before)+1 && slices.Equal(after[:len(before)], before) && after[len(before)] == ty && wrong == wrong2
				if Clean(d, v, ahead, put, ty) != want {
					t.Fatalf("%q %q %d", ahead, put, ty)
				}
			}
		}
	}
}
