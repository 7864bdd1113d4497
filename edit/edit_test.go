package edit

import (
	"math"
	"strings"
	"testing"

	"souffleur/api"
	"souffleur/utf"
)

// texts tells all texts of some pieces, of so many pieces at most.
func texts(most int) []string {
	pieces := []string{"a", "\n", "\xe2\x82\xac", "\xe2", "\x82", "\xac"}
	all := []string{""}
	for from, n := 0, 0; n < most; n++ {
		to := len(all)
		for _, s := range all[from:to] {
			for _, p := range pieces {
				all = append(all, s+p)
			}
		}
		from = to
	}
	return all
}

func TestApply(t *testing.T) {
	big := strings.Repeat("x", api.MaxText)
	for _, c := range []struct {
		s    string
		e    Edit
		want string
		code api.Errno
	}{
		{"abcd", Edit{1, 2, "x"}, "axd", api.OK},
		{"", Edit{0, 0, ""}, "", api.OK},
		{"ab", Edit{2, 0, "c"}, "abc", api.OK},
		{"ab", Edit{3, 0, "c"}, "", api.ErrArg},
		{"ab", Edit{-1, 0, ""}, "", api.ErrArg},
		{"ab", Edit{0, -1, ""}, "", api.ErrArg},
		{"ab", Edit{1, 2, ""}, "", api.ErrArg},
		{"ab", Edit{1, math.MaxInt, ""}, "", api.ErrArg},
		{"ab", Edit{math.MaxInt, math.MaxInt, ""}, "", api.ErrArg},
		{"ab", Edit{math.MinInt, math.MaxInt, ""}, "", api.ErrArg},
		{"a\xe2\x82\xac", Edit{2, 0, ""}, "", api.ErrCaret},
		{"a\xe2\x82\xac", Edit{1, 1, ""}, "", api.ErrCaret},
		{"a\xe2\x82\xac", Edit{1, 3, "\x82"}, "a\x82", api.OK},
		{big, Edit{0, 0, "y"}, "", api.ErrBig},
		{big, Edit{0, 1, "y"}, "y" + big[1:], api.OK},
		{big + "\xe2\x82\xac", Edit{api.MaxText + 1, 0, ""}, "", api.ErrCaret},
		{big + "\xe2\x82\xac", Edit{api.MaxText, 3, ""}, big, api.OK},
	} {
		if got, code := Apply(c.s, c.e); got != c.want || code != c.code {
			t.Errorf("%.9q %v: %.9q %v", c.s, c.e, got, code)
		}
		if _, code := Apply(c.s, c.e); code != api.OK && Back(c.s, c.e) != (Edit{}) {
			t.Errorf("%.9q %v: back", c.s, c.e)
		}
	}
	if e := Back("abcd", Edit{1, 2, "x"}); e != (Edit{1, 1, "bc"}) {
		t.Error(e)
	}
}

// slowDiff goes through all that may be.
func slowDiff(a, b string) Edit {
	both := func(i, j int) bool { return utf.Caret(a, i) && utf.Caret(b, j) }
	at := 0
	for n := 0; n <= len(a) && n <= len(b); n++ {
		if a[:n] == b[:n] && both(n, n) {
			at = n
		}
	}
	stay := 0
	for n := 0; n <= len(a)-at && n <= len(b)-at; n++ {
		if a[len(a)-n:] == b[len(b)-n:] && both(len(a)-n, len(b)-n) {
			stay = n
		}
	}
	return Edit{at, len(a) - at - stay, b[at : len(b)-stay]}
}

func TestDiff(t *testing.T) {
	l := texts(3)
	for _, a := range l {
		for _, b := range l {
			e := Diff(a, b)
			if e != slowDiff(a, b) {
				t.Fatalf("%x %x: %v", a, b, e)
			}
			if got, code := Apply(a, e); got != b || code != api.OK {
				t.Fatalf("%x %x: %x %v", a, b, got, code)
			}
		}
	}
	if e := Diff("aaa", "aa"); e != (Edit{2, 1, ""}) {
		t.Error(e)
	}
}

func TestUndone(t *testing.T) {
	for _, s := range texts(3) {
		for at := 0; at <= len(s); at++ {
			for cut := 0; cut <= len(s)-at; cut++ {
				for _, put := range []string{"", "b", "\xe2", "\x82\xac"} {
					e := Edit{at, cut, put}
					x, code := Apply(s, e)
					back := Back(s, e)
					if code != api.OK || !utf.Caret(x, back.At) || !utf.Caret(x, back.At+back.Cut) {
						continue
					}
					if y, code := Apply(x, back); y != s || code != api.OK {
						t.Fatalf("%x %v: %x %v", s, e, y, code)
					}
				}
			}
		}
	}
}

func TestMoved(t *testing.T) {
	for _, c := range []struct {
		e        Edit
		at, want int
	}{
		{Edit{2, 3, "x"}, 0, 0}, {Edit{2, 3, "x"}, 2, 2}, {Edit{2, 3, "x"}, 3, 3}, {Edit{2, 3, "x"}, 5, 3},
		{Edit{2, 3, "x"}, 6, 4}, {Edit{2, 3, "wxyz"}, 4, 6}, {Edit{2, 0, "x"}, 3, 4}, {Edit{2, 3, "x"}, -7, 0},
		{Edit{-5, -5, "x"}, 1, 2}, {Edit{-5, -5, "x"}, 0, 0},
		{Edit{math.MaxInt, math.MaxInt, "x"}, math.MaxInt, 1 << 40},
		{Edit{0, math.MaxInt, "xy"}, math.MaxInt, 2},
		{Edit{0, 1, ""}, math.MaxInt, 1<<40 - 1},
		{Edit{math.MinInt, math.MinInt, ""}, math.MinInt, 0},
	} {
		if got := c.e.Moved(c.at); got != c.want {
			t.Errorf("%v %d: %d", c.e, c.at, got)
		}
	}
}

func TestLines(t *testing.T) {
	for _, s := range texts(4) {
		line, col, lines := 0, 0, 1
		for at := 0; at <= len(s); at++ {
			l, c, ok := Line(s, at)
			if !utf.Caret(s, at) {
				if ok || l != 0 || c != 0 {
					t.Fatalf("%x %d", s, at)
				}
				continue
			}
			if !ok || l != line || c != col {
				t.Fatalf("%x %d: %d %d %v", s, at, l, c, ok)
			}
			if p, code := Place(s, l, c); p != at || code != api.OK {
				t.Fatalf("%x %d: %d %v", s, at, p, code)
			}
			col++
			if at == len(s) || s[at] == '\n' {
				if p, code := Place(s, l, c+1); p != 0 || code != api.ErrEnd {
					t.Fatalf("%x %d: %d %v", s, at, p, code)
				}
				line, col = line+1, 0
				lines = line
			}
		}
		if Lines(s) != lines {
			t.Fatalf("%x: %d lines", s, Lines(s))
		}
	}
}

func TestPlaceOfNone(t *testing.T) {
	for _, c := range []struct {
		line, col int
		code      api.Errno
	}{{-1, 0, api.ErrArg}, {2, 0, api.ErrArg}, {0, -1, api.ErrArg}, {math.MaxInt, 0, api.ErrArg}, {0, math.MaxInt, api.ErrEnd}, {1, 2, api.ErrEnd}, {math.MinInt, math.MinInt, api.ErrArg}} {
		if p, code := Place("a\nb", c.line, c.col); p != 0 || code != c.code {
			t.Error(c, p, code)
		}
	}
	for _, at := range []int{-1, 4, math.MaxInt, math.MinInt} {
		if l, c, ok := Line("a\nb", at); l != 0 || c != 0 || ok {
			t.Error(at)
		}
	}
}
