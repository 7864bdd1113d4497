package chars

import (
	"math"
	"slices"
	"strings"
	"testing"

	"souffleur/api"
)

// edges are numbers at which sets of the tests begin and end.
func edges() []rune {
	return []rune{math.MinInt32, -1, 0, 1, 'a', 'b', 'c', 'd', 0xd7ff, 0xd800, 0xdfff, 0xe000, api.MaxRune - 1, api.MaxRune, api.MaxRune + 1, math.MaxInt32}
}

func sets() []Set {
	e := edges()
	l := []Set{nil, {}}
	for i := 0; i < len(e); i += 2 {
		for j := 0; j < len(e); j += 3 {
			l = append(l, Set{{e[i], e[j]}}, Set{{e[j], e[j]}, {e[i], e[(i+2)%len(e)]}, {'b', 'b'}, {'a', 'a'}})
		}
	}
	return l
}

func clean(s Set) bool {
	for i, x := range s {
		if x.Lo > x.Hi || x.Lo < 0 || x.Hi > api.MaxRune || i > 0 && s[i-1].Hi+1 >= x.Lo {
			return false
		}
	}
	return true
}

func TestSets(t *testing.T) {
	l := sets()
	for _, a := range l {
		if !clean(Of(a...)) || !clean(a.Not()) || a.Count()+a.Not().Count() != api.MaxRune+1 || a.Empty() != (a.Count() == 0) || !a.Not().Not().Same(a) {
			t.Fatal(a)
		}
		for _, b := range l {
			or, and, less := a.Or(b), a.And(b), a.Less(b)
			same := true
			for _, r := range edges() {
				x, y := a.Has(r), b.Has(r)
				if or.Has(r) != (x || y) || and.Has(r) != (x && y) || less.Has(r) != (x && !y) {
					t.Fatal(a, b, r)
				}
				same = same && x == y
			}
			if !clean(or) || !clean(and) || !clean(less) || or.Count() != a.Count()+b.Count()-and.Count() || less.Count() != a.Count()-and.Count() {
				t.Fatal(a, b)
			}
			if a.Same(b) && !same || a.Same(b) != slices.Equal(Of(a...), Of(b...)) {
				t.Fatal(a, b, "same")
			}
		}
	}
	if All().Count() != api.MaxRune+1 || All().Has(-1) || All().Has(api.MaxRune+1) || (Set{{math.MinInt32, math.MaxInt32}}).Has(-1) {
		t.Error("all")
	}
}

func TestHandedInStays(t *testing.T) {
	l := make([]Range, 3, 9)
	copy(l, []Range{{'c', 'c'}, {'a', 'a'}, {'b', 'b'}})
	old := slices.Clone(l[:9])
	Of(l...)
	Set(l).Or(Set{{'x', 'x'}})
	Set(l).And(Set{{'x', 'x'}})
	Set(l).Not()
	Parts(l, l)
	Set(l).Text()
	if !slices.Equal(l[:9], old) {
		t.Error(l)
	}
	one := Of(l...)
	one[0].Lo = 'z'
	if l[0].Lo != 'c' {
		t.Error("shared")
	}
}

func TestParts(t *testing.T) {
	for _, c := range []struct {
		l    []Set
		want []Range
	}{
		{nil, nil},
		{[]Set{nil, {}}, nil},
		{[]Set{{{'a', 'c'}, {'b', 'f'}}}, []Range{{'a', 'f'}}},
		{[]Set{{{'a', 'c'}}, {{'d', 'f'}}}, []Range{{'a', 'c'}, {'d', 'f'}}},
		{[]Set{{{'a', 'f'}}, {{'c', 'd'}}}, []Range{{'a', 'b'}, {'c', 'd'}, {'e', 'f'}}},
		{[]Set{{{'a', 'c'}}, {{'a', 'c'}}}, []Range{{'a', 'c'}}},
		{[]Set{All(), {{'a', 'a'}}}, []Range{{0, 'a' - 1}, {'a', 'a'}, {'b', api.MaxRune}}},
		{[]Set{{{'x', 'z'}, {'a', 'b'}}, {{'y', 'y'}, {'b', 'k'}}}, []Range{{'a', 'a'}, {'b', 'b'}, {'c', 'k'}, {'x', 'x'}, {'y', 'y'}, {'z', 'z'}}},
	} {
		if got := Parts(c.l...); !slices.Equal(got, c.want) {
			t.Errorf("%v: %v", c.l, got)
		}
	}
}

func TestEscape(t *testing.T) {
	for _, c := range []struct {
		s    string
		r    rune
		size int
	}{
		{"n", 10, 1}, {"tx", 9, 1}, {"r", 13, 1}, {`\`, '\\', 1}, {"'", '\'', 1}, {"]]", ']', 1}, {"-", '-', 1}, {"^", '^', 1},
		{"u{a}", 10, 4}, {"u{00000A}b", 10, 9}, {"u{10FFFF}", api.MaxRune, 9}, {"u{0}", 0, 4}, {"u{d7ff}", 0xd7ff, 7},
	} {
		if r, n, ok := Escape(c.s); r != c.r || n != c.size || !ok {
			t.Errorf("%q: %x %d %v", c.s, r, n, ok)
		}
	}
	for _, s := range []string{"", "a", "[", "u", "u{", "u{}", "u{a", "u{000000a}", "u{110000}", "u{d800}", "u{dfff}", "u{g}", "ua}", "\xff", "N", "u{-1}", "\n"} {
		if r, n, ok := Escape(s); r != 0 || n != 0 || ok {
			t.Errorf("%q: %x %d %v", s, r, n, ok)
		}
	}
}

func TestSign(t *testing.T) {
	for _, c := range []struct {
		r       rune
		escaped string
		want    string
	}{
		{10, "", `\n`}, {9, "", `\t`}, {13, "]", `\r`}, {'\\', "", `\\`}, {'\'', "'", `\'`}, {'\'', "]-^", `'`}, {'-', "]-^", `\-`},
		{'a', "'", "a"}, {0x20ac, "'", "\xe2\x82\xac"}, {0x1f, "", `\u{1f}`}, {0x7f, "", `\u{7f}`}, {0xd800, "", `\u{d800}`}, {0x110000, "", `\u{110000}`},
		{0xfffd, "\xff", "\xef\xbf\xbd"}, {0x20, "", " "}, {0, "", `\u{0}`},
	} {
		if got := Sign(c.r, c.escaped); got != c.want {
			t.Errorf("%x %q: %s", c.r, c.escaped, got)
		}
	}
}

func TestRead(t *testing.T) {
	for s, want := range map[string]Set{
		"a-c_":              {{'_', '_'}, {'a', 'c'}},
		"a-":                {{'-', '-'}, {'a', 'a'}},
		"-a":                {{'-', '-'}, {'a', 'a'}},
		"--a":               {{'-', 'a'}},
		"a-b-c":             {{'-', '-'}, {'a', 'c'}},
		"a-b--":             {{'-', '-'}, {'a', 'b'}},
		"-":                 {{'-', '-'}},
		`\--\]`:             {{'-', ']'}},
		`\u{d7ff}-\u{e000}`: {{0xd7ff, 0xe000}},
		"^[]":               {{'[', '['}, {']', '^'}},
		"a-a":               {{'a', 'a'}},
	} {
		if got, stop := Read(s); !slices.Equal(got, want) || stop != (api.Stop{}) {
			t.Errorf("%q: %v %v", s, got, stop)
		}
	}
	for s, want := range map[string]api.Stop{
		"":             {Code: api.ErrEmpty},
		"ab\xff":       {Code: api.ErrSign, At: 2},
		"a-\xff":       {Code: api.ErrSign, At: 2},
		`ab\q`:         {Code: api.ErrEscape, At: 2},
		`z-\q`:         {Code: api.ErrEscape, At: 2},
		`a\`:           {Code: api.ErrEscape, At: 1},
		`xb-a\q`:       {Code: api.ErrRange, At: 1},
		`\q` + "b-a":   {Code: api.ErrEscape, At: 0},
		"a--":          {Code: api.ErrRange, At: 0},
		`\u{d800}-a`:   {Code: api.ErrEscape, At: 0},
		"\xe2\x82ab-a": {Code: api.ErrSign, At: 0},
	} {
		if got, stop := Read(s); len(got) != 0 || stop != want {
			t.Errorf("%q: %v %v", s, got, stop)
		}
	}
}

func TestTextIsReadAgain(t *testing.T) {
	none := Set{{0xd800, 0xdfff}}
	for _, s := range sets() {
		want := s.Less(none)
		got, stop := Read(s.Text())
		if want.Empty() {
			if s.Text() != "" {
				t.Fatal(s)
			}
			continue
		}
		if !got.Same(want) || stop != (api.Stop{}) {
			t.Fatalf("%v: %s %v", s, s.Text(), stop)
		}
	}
	for want, s := range map[string]Set{
		"_a-c":                      {{'a', 'c'}, {'_', '_'}},
		"ab":                        {{'a', 'b'}},
		`\--/\]\^`:                  {{'-', '/'}, {']', '^'}},
		`\u{0}-\u{1f}`:              {{0, 0x1f}},
		"\xed\x9f\xbf\xee\x80\x80":  {{0xd7ff, 0xe000}},
		`\n\\` + "\xf4\x8f\xbf\xbf": {{10, 10}, {'\\', '\\'}, {api.MaxRune, math.MaxInt32}},
	} {
		if got := s.Text(); got != want {
			t.Errorf("%v: %s", s, got)
		}
	}
	if strings.Contains(All().Text(), "d800") {
		t.Error(All().Text())
	}
}
