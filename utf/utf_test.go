package utf

import (
	"math"
	"strings"
	"testing"

	"souffleur/api"
)

// bytesOf lays a sign's bytes as the chapter's words say, apart from the library.
func bytesOf(r rune) string {
	n := uint32(r)
	switch {
	case n < 0x80:
		return string([]byte{byte(n)})
	case n < 0x800:
		return string([]byte{byte(0xc0 | n>>6), byte(0x80 | n&63)})
	case n < 0x10000:
		return string([]byte{byte(0xe0 | n>>12), byte(0x80 | n>>6&63), byte(0x80 | n&63)})
	}
	return string([]byte{byte(0xf0 | n>>18), byte(0x80 | n>>12&63), byte(0x80 | n>>6&63), byte(0x80 | n&63)})
}

func TestEncodeAndAt(t *testing.T) {
	for r := rune(0); r <= 0x10ffff; r++ {
		s, ok := Encode(r)
		if r >= 0xd800 && r <= 0xdfff {
			if ok || s != "" {
				t.Fatalf("%x: %q", r, s)
			}
			continue
		}
		if !ok || s != bytesOf(r) {
			t.Fatalf("%x: %q", r, s)
		}
		want := api.Item{At: 1, Size: len(s), Rune: r, OK: true}
		if x := At("\xe2"+s+"\x80\x80\xff", 1); x != want {
			t.Fatalf("%x: %v", r, x)
		}
	}
	for _, r := range []rune{-1, 0x110000, math.MaxInt32, math.MinInt32} {
		if s, ok := Encode(r); ok || s != "" {
			t.Errorf("%x: %q", r, s)
		}
	}
}

func TestAtOfNone(t *testing.T) {
	for _, at := range []int{-1, 3, 4, math.MaxInt, math.MinInt} {
		if x := At("abc", at); x != (api.Item{}) {
			t.Error(at, x)
		}
	}
	for _, s := range []string{"\x80", "\xc0\x80", "\xc1\xbf", "\xe0\x9f\xbf", "\xed\xa0\x80", "\xed\xbf\xbf", "\xf0\x8f\xbf\xbf", "\xf4\x90\x80\x80", "\xf5\x80\x80\x80", "\xff", "\xe2\x82", "\xf0\x9f\x98", "\xc3a"} {
		if x := At(s, 0); x != (api.Item{At: 0, Size: 1, Rune: 0xfffd}) {
			t.Errorf("%x: %v", s, x)
		}
	}
	if x := At("\xef\xbf\xbd", 0); x != (api.Item{Size: 3, Rune: 0xfffd, OK: true}) {
		t.Error(x)
	}
}

// texts tells all texts of some pieces, up to a length.
func texts(most int) []string {
	pieces := []string{"a", "\xc3\xa9", "\xe2\x82\xac", "\xf0\x9f\x98\x80", "\x80", "\xe2", "\xf0\x9f", "\xc3", "\xed\xa0"}
	all := []string{""}
	for from, n := 0, 0; n < most; n++ {
		to := len(all)
		for _, s := range all[from:to] {
			for _, p := range pieces {
				all = append(all, s+p)
			}
		}
		from = to
	}
	return all
}

func TestItems(t *testing.T) {
	for _, s := range texts(4) {
		l := Items(s)
		begins := map[int]bool{len(s): true}
		at, right := 0, true
		for _, x := range l {
			if x.At != at || x != At(s, at) {
				t.Fatalf("%x: %v", s, l)
			}
			begins[at] = true
			at += x.Size
			right = right && x.OK
		}
		if at != len(s) || Count(s) != len(l) || Right(s) != right {
			t.Fatalf("%x: %d %d %v", s, at, Count(s), Right(s))
		}
		for p := -2; p <= len(s)+2; p++ {
			if Caret(s, p) != begins[p] {
				t.Fatalf("%x: caret %d", s, p)
			}
		}
	}
	if Caret("a", math.MaxInt) || Caret("a", math.MinInt) || !Caret("", 0) || len(Items("")) != 0 || !Right("") {
		t.Error("edges")
	}
}

func TestItemsAreNew(t *testing.T) {
	l := Items("abc")
	l[0].Rune = 'z'
	if Items("abc")[0].Rune != 'a' {
		t.Error("kept")
	}
}

func TestShow(t *testing.T) {
	for s, want := range map[string]string{
		"":                     "",
		"\xff":                 `\u{ff}`,
		"\x00\x1f\x20~\x7f":    `\u{0}\u{1f} ~\u{7f}`,
		`a\b`:                  `a\\b`,
		"\xc2\x80\xe2\x82\xac": "\xc2\x80\xe2\x82\xac",
		"\xe2\x82":             `\u{e2}\u{82}`,
		"\xef\xbf\xbd":         "\xef\xbf\xbd",
	} {
		if got := Show(s); got != want {
			t.Errorf("%x: %s", s, got)
		}
	}
	if got := Show(strings.Repeat("\n", 3)); got != `\u{a}\u{a}\u{a}` {
		t.Error(got)
	}
}
