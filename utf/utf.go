// Package utf is layer 1: see shared/doc/01-utf.md.
package utf

import (
	"strconv"
	"strings"
	"unicode/utf8"

	"souffleur/api"
)

// At tells the item that stands at a place of a text; a zero Item, where none does.
func At(s string, at int) api.Item {
	if at < 0 || at >= len(s) {
		return api.Item{}
	}
	r, size := utf8.DecodeRuneInString(s[at:])
	// The sign fffd itself has three bytes; so only its size tells it from what is none.
	return api.Item{At: at, Size: size, Rune: r, OK: r != utf8.RuneError || size > 1}
}

// Items tells all items of a text, one behind the other.
func Items(s string) []api.Item {
	var l []api.Item
	for at := 0; at < len(s); {
		x := At(s, at)
		l = append(l, x)
		at += x.Size
	}
	return l
}

// Caret tells whether a place is where an item begins, or the text's end.
func Caret(s string, at int) bool {
	if at < 0 || at > len(s) {
		return false
	}
	// A sign's first byte is never a later one of another sign: so a look at the few bytes ahead is enough.
	for p := at - 1; p >= 0 && p > at-utf8.UTFMax; p-- {
		if p+At(s, p).Size > at {
			return false
		}
	}
	return true
}

// Encode tells a sign's bytes, and whether it is a sign.
func Encode(r rune) (string, bool) {
	if !utf8.ValidRune(r) {
		return "", false
	}
	return string(r), true
}

// Right tells whether all items of a text are signs.
func Right(s string) bool { return utf8.ValidString(s) }

// Count tells how many items a text has.
func Count(s string) int { return utf8.RuneCountInString(s) }

// Show tells a text with what is no sign, or can't be seen, told by its number.
func Show(s string) string {
	var b strings.Builder
	for at := 0; at < len(s); {
		x := At(s, at)
		b.WriteString(shown(s, x))
		at += x.Size
	}
	return b.String()
}

func shown(s string, x api.Item) string {
	switch {
	case !x.OK:
		return numbered(int64(s[x.At]))
	case x.Rune == '\\':
		return `\\`
	case x.Rune < 0x20 || x.Rune == 0x7f:
		return numbered(int64(x.Rune))
	}
	return s[x.At : x.At+x.Size]
}

func numbered(n int64) string { return `\u{` + strconv.FormatInt(n, 16) + "}" }
