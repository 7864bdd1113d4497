package show

import (
	"strings"
	"testing"

	"souffleur/api"
	"souffleur/chars"
	"souffleur/gram"
)

func TestText(t *testing.T) {
	for s, want := range map[string]string{
		"a:('x'|b)*;":            "a: ('x' | b)*;\n",
		"a:;":                    "a: ;\n",
		"a:|b c|;":               "a:  | b c | ;\n",
		"a:(b c)d();":            "a: (b c) d ();\n",
		"a:((b?)+)*;":            "a: ((b?)+)*;\n",
		"a:b?c*d+;":              "a: b? c* d+;\n",
		`fragment A:'\n\'';`:     `fragment A: '\n\'';` + "\n",
		"A:.~[a][a-c_]->skip;":   "A: . ~[a] [_a-c] -> skip;\n",
		"A:b->hidden;C:->word;":  "A: b -> hidden;\nC:  -> word;\n",
		`A:~[\u{0}-\u{10FFFF}];`: `A: ~[\u{0}-\u{10ffff}];` + "\n",
		`A:[\u{0}-\u{10FFFF}];`:  "A: .;\n",
		`A:[b-\u{10FFFF}];`:      `A: ~[\u{0}-a];` + "\n",
	} {
		g, stop := gram.Read(s)
		if stop != (api.Stop{}) {
			t.Fatal(s, stop)
		}
		got := Text(g)
		if got != want {
			t.Errorf("%q: %q", s, got)
		}
		again, stop := gram.Read(got)
		if stop != (api.Stop{}) || !again.Same(g) {
			t.Errorf("%q: read as %v %v", got, again, stop)
		}
	}
}

func TestReadAgain(t *testing.T) {
	parts := []string{"b", "'x'?", "(a|b)", "()*", "|", "([x]+ | b? c)", "((c))", "~[\\]\\-]", "((a)|(b))?"}
	for n := 0; n < 729; n++ {
		s := "a:" + parts[n%9] + parts[n/9%9] + parts[n/81] + ";"
		g, _ := gram.Read(s)
		again, stop := gram.Read(Text(g))
		if stop != (api.Stop{}) || !again.Same(g) {
			t.Fatalf("%q: %q", s, Text(g))
		}
	}
}

func TestRuleAndNode(t *testing.T) {
	g, _ := gram.Read("a: 'x' b?; fragment B: [c] -> word;")
	if Rule(g, 0) != "a: 'x' b?;" || Rule(g, 1) != "fragment B: [c] -> word;" || Rule(g, 2) != "" || Rule(g, -1) != "" {
		t.Error(Rule(g, 0), Rule(g, 1))
	}
	if Node(g, 0) != "'x'" || Node(g, 2) != "b?" || Node(g, 3) != "'x' b?" || Node(g, 6) != "" || Node(g, -1) != "" || Node(g, 4) != "[c]" {
		t.Error(Node(g, 2), Node(g, 3))
	}
	g.Rules[1].Channel = gram.Hidden
	if Rule(g, 1) != "fragment B: [c] -> hidden;" {
		t.Error(Rule(g, 1))
	}
	g.Nodes[2].Kids[0] = 2
	if Rule(g, 1) != "" || Node(g, 0) != "" || Text(g) != "" {
		t.Error("not right")
	}
}

func TestUnread(t *testing.T) {
	g := gram.Grammar{Nodes: []gram.Node{{Kind: gram.Name, Text: "b"}, {Kind: gram.Alt, Kids: []int{0, 0}}, {Kind: gram.Alt, Kids: []int{1, 0}}, {Kind: gram.Star, Kids: []int{2}}}}
	if Node(g, 2) != "b | b | b" || Node(g, 3) != "(b | b | b)*" {
		t.Error(Node(g, 2), Node(g, 3))
	}
	deep := gram.Grammar{Nodes: []gram.Node{{Kind: gram.Seq}}}
	for i := 0; i < 1<<20; i++ {
		deep.Nodes = append(deep.Nodes, gram.Node{Kind: gram.Opt, Kids: []int{i}})
	}
	if got := Node(deep, 1<<20); !strings.HasSuffix(got, "(()?)?"+strings.Repeat(")?", 1<<20-2)) {
		t.Error(len(got))
	}
}

func TestClass(t *testing.T) {
	for _, c := range []struct {
		n    gram.Node
		want string
	}{
		{gram.Node{Kind: gram.Class}, `~[\u{0}-\u{10ffff}]`},
		{gram.Node{Kind: gram.Class, Set: chars.All()}, "."},
		{gram.Node{Kind: gram.Class, Set: chars.Set{{Lo: -5, Hi: 1 << 30}}}, "."},
		{gram.Node{Kind: gram.Class, Set: chars.Set{{Lo: 'b', Hi: 'c'}, {Lo: 'a', Hi: 'a'}}}, "[a-c]"},
		{gram.Node{Kind: gram.Lit, Set: chars.All()}, ""},
		{gram.Node{Kind: gram.Class, Set: chars.All().Less(chars.Set{{Lo: ']', Hi: ']'}})}, `~[\]]`},
	} {
		if got := Class(c.n); got != c.want {
			t.Errorf("%v: %s", c.n, got)
		}
	}
}
