package script

import (
	"math"
	"slices"
	"strconv"
	"strings"
	"testing"

	"souffleur/api"
	"souffleur/session"
)

func same(a, b Act) bool {
	return a.Kind == b.Kind && slices.Equal(a.Nums, b.Nums) && a.Text == b.Text
}

func TestLines(t *testing.T) {
	sixty := make([]int, 60)
	for line, a := range map[string]Act{
		`load 's: \'x\';'`:                {Load, nil, "s: 'x';"},
		"load -":                          {Load, nil, ""},
		"set '-'":                         {Set, nil, "-"},
		`set 'a b  c\n\u{1}'`:             {Set, nil, "a b  c\n\x01"},
		"edit 0 2147483647 -":             {Edit, []int{0, 2147483647}, ""},
		"edit 3 4 ' \xe2\x82\xac'":        {Edit, []int{3, 4}, " \xe2\x82\xac"},
		"prefer":                          {Prefer, nil, ""},
		"prefer 1 0 1":                    {Prefer, []int{1, 0, 1}, ""},
		"less 70000":                      {Less, []int{70000}, ""},
		"rows 99":                         {Rows, []int{99}, ""},
		"complete 5":                      {Complete, []int{5}, ""},
		"parse":                           {Parse, nil, ""},
		"accept 2 3":                      {Accept, []int{2, 3}, ""},
		"clear":                           {Clear, nil, ""},
		"room 10":                         {Room, []int{10}, ""},
		"less" + strings.Repeat(" 0", 60): {Less, sixty, ""},
		"set '# // /'":                    {Set, nil, "# // /"},
		"set '" + strings.Repeat("x", api.MaxGram-2) + "'": {Set, nil, strings.Repeat("x", api.MaxGram-2)},
	} {
		got, code := Read(line)
		if !Right(a) || Line(a) != line || !same(got, a) || code != api.OK {
			t.Errorf("%.60q: %.60q %v", line, Line(a), code)
		}
	}
	for _, line := range []string{
		"", " ", "foo", "load", "load ", "set ''", "set x", "set 'x", "set 'x' ", "set  'x'", " set 'x'", "set 'x' 'y'", `set '\u{61}'`, `set '\u{0a}'`, `set '"\q'`, "set 'x'//", "set '\xff'", "set 'a\nb'", "set - ", "set --",
		"edit 1 -", "edit 1 2", "edit 1 2 ", "edit 1 2 3 -", "edit 01 2 -", "edit +1 2 -", "edit -1 2 -", "edit 1 2147483648 -", "edit 1 99999999999999999999 -", "edit 1  2 -", "edit 1_0 2 -",
		"prefer ", "prefer 1 ", "prefer x", "less" + strings.Repeat(" 0", 61), "rows", "rows 1 2", "rows -1", "rows 00", "complete", "complete 0x1", "parse 1", "parse ", "clear 0", "accept 1", "accept 1 2 3", "accept 2 -1", "room", "room 1 ",
		"LOAD -", "load - -", "Set 'x'", "set '" + strings.Repeat("x", api.MaxGram-1) + "'", "parse\n", "set 'x'\n", "set\t'x'",
	} {
		if a, code := Read(line); code != api.ErrScript || !same(a, Act{}) {
			t.Errorf("%.60q: %v %v", line, a, code)
		}
	}
}

func TestRight(t *testing.T) {
	for i, a := range []Act{
		{Kind: -1}, {Kind: 11}, {Kind: math.MaxInt}, {Kind: Load, Nums: []int{1}}, {Kind: Edit}, {Kind: Edit, Nums: []int{1}}, {Kind: Edit, Nums: []int{1, -2}}, {Kind: Edit, Nums: []int{1, 1 << 31}}, {Kind: Rows}, {Kind: Rows, Nums: []int{1, 2}},
		{Kind: Rows, Nums: []int{1}, Text: "x"}, {Kind: Parse, Text: "x"}, {Kind: Clear, Nums: []int{1}}, {Kind: Prefer, Nums: make([]int, 61)}, {Kind: Set, Text: "\xff"}, {Kind: Set, Text: strings.Repeat("'", api.MaxGram/2)}, {Kind: Complete, Nums: []int{math.MinInt}},
	} {
		if Right(a) || Line(a) != "" || Do(session.New(1), a) != "error 33\n" {
			t.Error(i, a)
		}
	}
	if !Right(Act{Kind: Set, Text: strings.Repeat("'", api.MaxGram/2-1)}) {
		t.Error("long")
	}
}

func TestPlay(t *testing.T) {
	for text, want := range map[string]string{
		"load 's: \\'x\\';'\ncomplete 0\nset 'x'\ncomplete 1\nparse":      "ok\n'x' 10\nok\nEOF 1\n(s 'x') 0\n",
		"\n# load\n\nparse\nfoo\n clear\n":                                "error 32\nerror 33\nerror 33\n",
		"load 's: x;'\nload 's: ('\nload -\nset -\nrows 1\nclear\nroom 3": "error 17 3\nerror 10 4\nerror 10 0\nerror 32\nerror 32\nok\nok\n",
		"load 's: \\'x\\' s | \\'y\\';'\nset 'xqx'\ncomplete 3\nparse\nedit 1 1 'x'\nparse\nedit 3 0 'y'\nparse\ncomplete 4\nedit 9 0 -\ncomplete 5":                                                                                    "ok\nok\n'x' 10\n'y' 10\n(s 'x' (s 'x'...... 0\nok\n(s 'x' (s 'x' (s 'x'......... 0\nok\n(s 'x' (s 'x' (s 'x' (s 'y')))) 0\nEOF 1\nerror 2\nerror 2\n",
		"load 's: a | b; a: c \\'x\\'; b: c \\'y\\' | d; c: d; d: \\'z\\';'\nprefer 4\ncomplete 0\nrows 2\ncomplete 0\nrows 0\ncomplete 0\nrows 65\nprefer 0\ncomplete 0\nless 2\ncomplete 0\naccept 0 2\nless\ncomplete 0\naccept 3 0": "ok\nok\nd 4 0>2>4 0>1>3>4 0>2>3>4\nok\nd 4 0>2>4 0>1>3>4 +\nok\nd 4 +\nerror 2\nok\ns 4 +\nok\nnothing\nok\nok\n'z' 26\nerror 2\n",
		"load 's: A; A: [a]+ -> word;'\nset 'a'\ncomplete 1\nset '?a?'\nparse\naccept 2 65535\naccept 0 65536":                                                                                                                          "ok\nok\nA 0\nok\n(s A) 0\nok\nerror 2\n",
	} {
		if got := Play(session.New(4), text); got != want {
			t.Errorf("%s:\n%s, not\n%s", text, got, want)
		}
		lines := strings.Split(text, "\n")
		for i := range lines {
			s := session.New(i)
			if got := Play(s, strings.Join(lines[:i], "\n")) + Play(s, strings.Join(lines[i:], "\n")+"\n"); got != want {
				t.Errorf("%d:\n%s", i, got)
			}
		}
	}
}

func TestPlain(t *testing.T) {
	for _, s := range []*session.Session{nil, {}} {
		for line, want := range map[string]string{"load 'x'": "error 1 0\n", "set -": "error 1\n", "edit 0 0 -": "error 1\n", "prefer": "error 1\n", "less 1": "error 1\n", "rows 1": "error 1\n", "complete 0": "error 1\n", "parse": "error 1\n", "accept 0 0": "error 1\n", "clear": "ok\n", "room 2": "ok\n"} {
			if got := Play(s, line); got != want {
				t.Errorf("%s: %s", line, got)
			}
		}
	}
}

func TestEdits(t *testing.T) {
	s := session.New(2)
	Play(s, "load 's: A*; A: [a-z]+; S: \\' \\' -> skip;'")
	for i := range 20 {
		Play(s, "edit "+strconv.Itoa(i)+" 0 'a'")
	}
	if s.Text() != strings.Repeat("a", 20) || Play(s, "parse") != "(s A) 0\n" {
		t.Error(s.Text())
	}
}
