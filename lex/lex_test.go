package lex

import (
	"strings"
	"testing"

	"souffleur/api"
	"souffleur/chars"
	"souffleur/utf"
)

func same(a, b Tok) bool {
	return a.Kind == b.Kind && a.At == b.At && a.End == b.End && a.Text == b.Text && a.Set.Same(b.Set)
}

func TestAll(t *testing.T) {
	long := strings.Repeat("n", api.MaxName)
	for s, want := range map[string][]Tok{
		"":         {{Kind: End}},
		" // x":    {{Kind: End, At: 5, End: 5}},
		"a: 'b' ;": {{Lower, 0, 1, "a", nil}, {Colon, 1, 2, "", nil}, {Lit, 3, 6, "b", nil}, {Semi, 7, 8, "", nil}, {End, 8, 8, "", nil}},
		":|;()?*+.~->": {{Colon, 0, 1, "", nil}, {Bar, 1, 2, "", nil}, {Semi, 2, 3, "", nil}, {Open, 3, 4, "", nil}, {Close, 4, 5, "", nil}, {Opt, 5, 6, "", nil},
			{Star, 6, 7, "", nil}, {Plus, 7, 8, "", nil}, {Dot, 8, 9, "", nil}, {Not, 9, 10, "", nil}, {Arrow, 10, 12, "", nil}, {End, 12, 12, "", nil}},
		"Ab_9//\xff'\n\t\r c": {{Upper, 0, 4, "Ab_9", nil}, {Lower, 12, 13, "c", nil}, {End, 13, 13, "", nil}},
		`'\'\\\n\u{20ac}'[\]\\]`: {{Lit, 0, 16, "'\\\n\xe2\x82\xac", nil}, {Class, 16, 22, "", chars.Set{{Lo: ']', Hi: ']'}, {Lo: '\\', Hi: '\\'}}},
			{End, 22, 22, "", nil}},
		"[a-\n]":    {{End, 0, 0, "", nil}},
		"[\n'/]/ /": {{End, 0, 0, "", nil}},
		"'//'x":     {{Lit, 0, 4, "//", nil}, {Lower, 4, 5, "x", nil}, {End, 5, 5, "", nil}},
		long + "A":  {{End, 0, 0, "", nil}},
		long:        {{Lower, 0, 60, long, nil}, {End, 60, 60, "", nil}},
	} {
		got, stop := All(s)
		if stop != (api.Stop{}) {
			if len(want) > 1 || len(got) != 0 {
				t.Errorf("%q: %v", s, stop)
			}
			continue
		}
		if len(got) != len(want) {
			t.Errorf("%q: %v", s, got)
			continue
		}
		for i := range got {
			if !same(got[i], want[i]) {
				t.Errorf("%q: %v, not %v", s, got[i], want[i])
			}
		}
	}
}

func TestWrong(t *testing.T) {
	long := strings.Repeat("n", api.MaxName+1)
	for s, want := range map[string]api.Stop{
		strings.Repeat(" ", api.MaxGram+1): {Code: api.ErrBig},
		"a " + long:                        {Code: api.ErrBig, At: 2},
		"a 'b":                             {Code: api.ErrEnd, At: 2},
		`a 'b\'`:                           {Code: api.ErrEnd, At: 2},
		"a 'b\n":                           {Code: api.ErrEnd, At: 2},
		"a 'b\xff":                         {Code: api.ErrEnd, At: 2},
		"a [b":                             {Code: api.ErrEnd, At: 2},
		`a [b\]`:                           {Code: api.ErrEnd, At: 2},
		`a [b\\\]`:                         {Code: api.ErrEnd, At: 2},
		"a 'b\xffc'":                       {Code: api.ErrSign, At: 4},
		"a 'b\nc'":                         {Code: api.ErrSign, At: 4},
		`a 'bc\qd'`:                        {Code: api.ErrEscape, At: 5},
		`a 'b\u{'`:                         {Code: api.ErrEscape, At: 4},
		"a ''":                             {Code: api.ErrEmpty, At: 2},
		"a []":                             {Code: api.ErrEmpty, At: 3},
		"a [xb-a]":                         {Code: api.ErrRange, At: 4},
		`a [x\q]`:                          {Code: api.ErrEscape, At: 4},
		"a [x\xff]":                        {Code: api.ErrSign, At: 4},
		"a 1":                              {Code: api.ErrSign, At: 2},
		"a _":                              {Code: api.ErrSign, At: 2},
		"a - >":                            {Code: api.ErrSign, At: 2},
		"a / b":                            {Code: api.ErrSign, At: 2},
		"a ]":                              {Code: api.ErrSign, At: 2},
		"a \xc3\xa9":                       {Code: api.ErrSign, At: 2},
		"a \x00 ''":                        {Code: api.ErrSign, At: 2},
		"'' " + long:                       {Code: api.ErrEmpty, At: 0},
	} {
		if got, stop := All(s); len(got) != 0 || stop != want {
			t.Errorf("%.20q: %v %v", s, got, stop)
		}
	}
	if got, stop := All(strings.Repeat(" ", api.MaxGram)); len(got) != 1 || stop != (api.Stop{}) {
		t.Error(stop)
	}
}

func TestPartsRise(t *testing.T) {
	pieces := []string{"a", "B9_", " ", "'x'", "[a-b]", "//c\n", "->", ";", "'\\''", "?"}
	for n := 0; n < 10000; n++ {
		s := pieces[n%10] + pieces[n/10%10] + pieces[n/100%10] + pieces[n/1000]
		l, stop := All(s)
		if stop != (api.Stop{}) {
			t.Fatal(s, stop)
		}
		at := 0
		for i, x := range l {
			if x.At < at || i < len(l)-1 && x.End <= x.At {
				t.Fatal(s, l)
			}
			at = x.End
		}
	}
}

func TestQuote(t *testing.T) {
	for s, want := range map[string]string{"": "''", "a'b": `'a\'b'`, "a\xffb": "'ab'", "\n\\]": `'\n\\]'`, "\x01\x7f": `'\u{1}\u{7f}'`, "-^\"": `'-^"'`} {
		if got := Quote(s); got != want {
			t.Errorf("%q: %s", s, got)
		}
	}
	for r := rune(0); r < 0x3000; r++ {
		s, _ := utf.Encode(r)
		s += "x" + s
		l, stop := All(Quote(s))
		if stop != (api.Stop{}) || len(l) != 2 || l[0].Kind != Lit || l[0].Text != s {
			t.Fatalf("%q: %v %v", s, l, stop)
		}
	}
}

func TestName(t *testing.T) {
	for s, want := range map[string][2]bool{
		"": {}, "a": {true, false}, "A": {true, true}, "zZ9_": {true, false}, "Z": {true, true}, "9a": {}, "_a": {}, "a b": {}, "a\xff": {}, "\xc3\xa9": {}, "a-": {},
		strings.Repeat("x", 60): {true, false}, strings.Repeat("X", 61): {},
	} {
		if name, up := Name(s); name != want[0] || up != want[1] {
			t.Errorf("%q: %v %v", s, name, up)
		}
	}
}
