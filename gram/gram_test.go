package gram

import (
	"slices"
	"strconv"
	"strings"
	"testing"

	"souffleur/api"
	"souffleur/chars"
)

func read(t *testing.T, s string) Grammar {
	t.Helper()
	g, stop := Read(s)
	if stop != (api.Stop{}) {
		t.Fatalf("%.50q: %v", s, stop)
	}
	return g
}

func set(s string) chars.Set {
	x, _ := chars.Read(s)
	return x
}

func TestRead(t *testing.T) {
	for _, c := range []struct {
		s     string
		nodes []Node
	}{
		{"a: 'x' b?;", []Node{{Kind: Lit, Text: "x", At: 3}, {Kind: Name, Text: "b", At: 7}, {Kind: Opt, Kids: []int{1}}, {Kind: Seq, Kids: []int{0, 2}}}},
		{"a:;", []Node{{Kind: Seq}}},
		{"a:|;", []Node{{Kind: Seq}, {Kind: Seq}, {Kind: Alt, Kids: []int{0, 1}}}},
		{"A: (b)+ .* ~[a] [b]|();", []Node{{Kind: Name, Text: "b", At: 4}, {Kind: Seq, Kids: []int{0}}, {Kind: Plus, Kids: []int{1}}, {Kind: Class, Set: chars.All(), At: 8}, {Kind: Star, Kids: []int{3}},
			{Kind: Class, Set: set("a").Not(), At: 11}, {Kind: Class, Set: set("b"), At: 16}, {Kind: Seq, Kids: []int{2, 4, 5, 6}}, {Kind: Seq}, {Kind: Seq, Kids: []int{8}}, {Kind: Alt, Kids: []int{7, 9}}}},
	} {
		g := read(t, c.s)
		ok := len(g.Nodes) == len(c.nodes)
		for i := 0; ok && i < len(g.Nodes); i++ {
			ok = sameNode(g.Nodes[i], c.nodes[i]) && g.Nodes[i].At == c.nodes[i].At
		}
		if !ok || !g.Right() || g.Rules[0].Root != len(g.Nodes)-1 {
			t.Errorf("%q: %v", c.s, g.Nodes)
		}
	}
}

func TestRules(t *testing.T) {
	g := read(t, "a: fragment | fragment c;\nfragment: 'x';\nfragment B: 'y' -> word;\nC:'z'->skip;D:.->hidden;")
	want := []Rule{
		{Name: "a", Root: 5},
		{Name: "fragment", Root: 7, At: 26},
		{Name: "B", Upper: true, Fragment: true, Word: true, Root: 9, At: 50},
		{Name: "C", Upper: true, Channel: Skip, Root: 11, At: 66},
		{Name: "D", Upper: true, Channel: Hidden, Root: 13, At: 78},
	}
	if !slices.Equal(g.Rules, want) {
		t.Errorf("%+v", g.Rules)
	}
	if g.Find("C") != 3 || g.Find("x") != -1 || (Grammar{}).Find("") != -1 {
		t.Error("find")
	}
	if read(t, "a:;a:b;").Find("a") != 0 {
		t.Error("first")
	}
}

func TestWrong(t *testing.T) {
	rules := strings.Repeat("a:;", api.MaxRules)
	nodes := func(n int) string { return "a:" + strings.Repeat("b ", n) }
	nest := strings.Repeat("(", api.MaxNest)
	for s, want := range map[string]api.Stop{
		"":                                 {Code: api.ErrEnd},
		" ":                                {Code: api.ErrEnd, At: 1},
		"a":                                {Code: api.ErrEnd, At: 1},
		"a:":                               {Code: api.ErrEnd, At: 2},
		"a:b ":                             {Code: api.ErrEnd, At: 4},
		"a:(b ":                            {Code: api.ErrEnd, At: 5},
		"a:b->":                            {Code: api.ErrEnd, At: 5},
		"A:b->skip":                        {Code: api.ErrEnd, At: 9},
		"a:~":                              {Code: api.ErrEnd, At: 3},
		"fragment":                         {Code: api.ErrEnd, At: 8},
		"a b":                              {Code: api.ErrSign, At: 2},
		":":                                {Code: api.ErrSign, At: 0},
		"a:b:":                             {Code: api.ErrSign, At: 3},
		"a:b)":                             {Code: api.ErrSign, At: 3},
		"a:(b;":                            {Code: api.ErrSign, At: 4},
		"a:(b->c);":                        {Code: api.ErrSign, At: 4},
		"a:b??;":                           {Code: api.ErrSign, At: 4},
		"a:?;":                             {Code: api.ErrSign, At: 2},
		"a:~.;":                            {Code: api.ErrSign, At: 3},
		"a:b->;":                           {Code: api.ErrSign, At: 5},
		"a:b;;":                            {Code: api.ErrSign, At: 4},
		"a:b 'x":                           {Code: api.ErrEnd, At: 4},
		"a:) ''":                           {Code: api.ErrEmpty, At: 4},
		"fragment b:;":                     {Code: api.ErrKind, At: 9},
		"fragment fragment A":              {Code: api.ErrKind, At: 9},
		"a:; b:c->skip;":                   {Code: api.ErrKind, At: 4},
		"a:; b:c->foo;":                    {Code: api.ErrKind, At: 4},
		"a:; B:c->foo;":                    {Code: api.ErrName, At: 9},
		"a:; B:c->Skip;":                   {Code: api.ErrName, At: 9},
		"a:" + nest + "(":                  {Code: api.ErrNest, At: 2 + api.MaxNest},
		"a:" + nest + ")":                  {Code: api.ErrEnd, At: 3 + api.MaxNest},
		rules + "b":                        {Code: api.ErrBig, At: 3 * api.MaxRules},
		rules + "fragment b":               {Code: api.ErrKind, At: 3*api.MaxRules + 9},
		nodes(api.MaxNodes) + "c;":         {Code: api.ErrBig, At: 2 + 2*api.MaxNodes},
		nodes(api.MaxNodes) + ";":          {Code: api.ErrBig, At: 2 + 2*api.MaxNodes},
		nodes(api.MaxNodes) + ":":          {Code: api.ErrSign, At: 2 + 2*api.MaxNodes},
		nodes(api.MaxNodes):                {Code: api.ErrEnd, At: 2 + 2*api.MaxNodes},
		nodes(api.MaxNodes) + "?":          {Code: api.ErrBig, At: 2 + 2*api.MaxNodes},
		nodes(api.MaxNodes) + "~ [a]":      {Code: api.ErrBig, At: 4 + 2*api.MaxNodes},
		nodes(api.MaxNodes-2) + "| ;":      {Code: api.ErrBig, At: 2 * api.MaxNodes},
		strings.Repeat(" ", api.MaxGram+1): {Code: api.ErrBig},
	} {
		if g, stop := Read(s); stop != want || len(g.Rules) != 0 || len(g.Nodes) != 0 {
			t.Errorf("%.50q: %v, not %v", s, stop, want)
		}
	}
	read(t, rules)
	read(t, nodes(api.MaxNodes-1)+";")
	read(t, "a:"+nest+strings.Repeat(")", api.MaxNest)+"("+nest[1:]+strings.Repeat(")", api.MaxNest)+";")
}

func TestNodesOfARuleStandTogether(t *testing.T) {
	parts := []string{"b", "'x'?", "(a|b)", "()*", "|", "([x]+ | b? c)"}
	for n := 0; n < 216; n++ {
		s := ""
		for i, k := 0, n; i < 3; i, k = i+1, k/6 {
			s += "R" + strconv.Itoa(i) + ":" + parts[k%6] + parts[k/6%6] + ";"
		}
		g := read(t, s)
		from := 0
		for _, r := range g.Rules {
			seen := map[int]bool{r.Root: true}
			for i := r.Root; i >= from; i-- {
				if !seen[i] {
					t.Fatal(s, i)
				}
				for _, k := range g.Nodes[i].Kids {
					if seen[k] || k < from {
						t.Fatal(s, i)
					}
					seen[k] = true
				}
			}
			from = r.Root + 1
		}
		if !g.Right() || from != len(g.Nodes) {
			t.Fatal(s)
		}
	}
}

func TestSameAndClone(t *testing.T) {
	g := read(t, "a: 'x' (b|[c])?; B: c -> word;")
	if !g.Same(read(t, "a:'x'(b|[c])?;B:c->word;")) || !g.Same(g.Clone()) || !(Grammar{}).Same((Grammar{}).Clone()) {
		t.Error("alike")
	}
	for _, s := range []string{"a: 'y' (b|[c])?; B: c -> word;", "a: 'x' (b|[d])?; B: c -> word;", "a: 'x' (b|[c])*; B: c -> word;", "a: 'x' (b|[c])?; B: c -> skip;", "a: 'x' (b|[c])?; B: c;", "a: 'x' (b|[c])?;", "d: 'x' (b|[c])?; B: c -> word;"} {
		if g.Same(read(t, s)) || read(t, s).Same(g) {
			t.Error(s)
		}
	}
	c := g.Clone()
	c.Rules[0].Name, c.Nodes[1].Text, c.Nodes[3].Set[0].Lo, c.Nodes[5].Kids[0] = "z", "z", 'z', 9
	if !g.Same(read(t, "a:'x'(b|[c])?;B:c->word;")) {
		t.Error("shared")
	}
	if c := g.Clone(); c.Nodes[1].At != g.Nodes[1].At || c.Rules[1].At != g.Rules[1].At {
		t.Error("at")
	}
}

func TestRight(t *testing.T) {
	leaf := Node{Kind: Lit, Text: "x"}
	for i, g := range []Grammar{
		{}, {Nodes: []Node{leaf, {Kind: Seq, Kids: []int{0, 0}}}, Rules: []Rule{{Root: 1}}}, {Nodes: []Node{leaf, {Kind: Alt, Kids: []int{0, 0}}, {Kind: Star, Kids: []int{1}}}},
	} {
		if !g.Right() {
			t.Error(i)
		}
	}
	for i, g := range []Grammar{
		{Nodes: []Node{{Kind: -1}}}, {Nodes: []Node{{Kind: 8}}}, {Nodes: []Node{leaf}, Rules: []Rule{{Root: 1}}}, {Nodes: []Node{leaf}, Rules: []Rule{{Root: -1}}}, {Rules: []Rule{{}}},
		{Nodes: []Node{leaf, {Kind: Alt, Kids: []int{0}}}}, {Nodes: []Node{{Kind: Opt}}}, {Nodes: []Node{leaf, {Kind: Plus, Kids: []int{0, 0}}}}, {Nodes: []Node{leaf, {Kind: Lit, Kids: []int{0}}}},
		{Nodes: []Node{leaf, {Kind: Name, Kids: []int{0}}}}, {Nodes: []Node{leaf, {Kind: Class, Kids: []int{0}}}}, {Nodes: []Node{leaf, {Kind: Seq, Kids: []int{1}}}}, {Nodes: []Node{leaf, {Kind: Seq, Kids: []int{-1}}}},
		{Nodes: []Node{{Kind: Seq, Kids: []int{1}}, leaf}}, {Nodes: []Node{leaf, {Kind: Star, Kids: nil}}},
	} {
		if g.Right() {
			t.Error(i)
		}
	}
}
