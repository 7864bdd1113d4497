package chars

import (
	"strconv"
	"strings"

	"souffleur/api"
	"souffleur/utf"
)

// The numbers from firstNone to lastNone are no signs.
const (
	firstNone = 0xd800
	lastNone  = 0xdfff
)

// Read tells the set that stands between brackets, or why none does, and where.
func Read(s string) (Set, api.Stop) {
	if s == "" {
		return nil, api.Stop{Code: api.ErrEmpty}
	}
	var l []Range
	for at := 0; at < len(s); {
		lo, next, code := signAt(s, at)
		if code != api.OK {
			return nil, api.Stop{Code: code, At: at}
		}
		hi := lo
		if next+1 < len(s) && s[next] == '-' {
			place := next + 1
			if hi, next, code = signAt(s, place); code != api.OK {
				return nil, api.Stop{Code: code, At: place}
			}
		}
		if hi < lo {
			return nil, api.Stop{Code: api.ErrRange, At: at}
		}
		l = append(l, Range{lo, hi})
		at = next
	}
	return Of(l...), api.Stop{}
}

// signAt tells the sign that stands at a place, escaped or not, and the place behind it.
func signAt(s string, at int) (rune, int, api.Errno) {
	x := utf.At(s, at)
	if !x.OK {
		return 0, 0, api.ErrSign
	}
	if x.Rune != '\\' {
		return x.Rune, at + x.Size, api.OK
	}
	r, size, ok := Escape(s[at+1:])
	if !ok {
		return 0, 0, api.ErrEscape
	}
	return r, at + 1 + size, api.OK
}

// Text tells what stands between brackets for a set.
func (s Set) Text() string {
	var b strings.Builder
	for _, x := range s.Less(Set{{firstNone, lastNone}}) {
		b.WriteString(Sign(x.Lo, "]-^"))
		if x.Lo == x.Hi {
			continue
		}
		if x.Hi > x.Lo+1 {
			b.WriteByte('-')
		}
		b.WriteString(Sign(x.Hi, "]-^"))
	}
	return b.String()
}

// Escape tells the sign that an escape behind a backslash tells, and how many bytes it has.
func Escape(s string) (rune, int, bool) {
	if s == "" {
		return 0, 0, false
	}
	switch s[0] {
	case 'n':
		return '\n', 1, true
	case 't':
		return '\t', 1, true
	case 'r':
		return '\r', 1, true
	case '\\', '\'', ']', '-', '^':
		return rune(s[0]), 1, true
	case 'u':
		return numbered(s)
	}
	return 0, 0, false
}

// numbered tells the sign of an escape by its number.
func numbered(s string) (rune, int, bool) {
	const most = 6
	if len(s) < 2 || s[1] != '{' {
		return 0, 0, false
	}
	r, at := rune(0), 2
	for ; at < len(s) && at < 2+most && digit(s[at]) >= 0; at++ {
		r = r*16 + digit(s[at])
	}
	if at == 2 || at == len(s) || s[at] != '}' {
		return 0, 0, false
	}
	if _, ok := utf.Encode(r); !ok {
		return 0, 0, false
	}
	return r, at + 1, true
}

// digit tells what a digit of base 16 counts; -1 of other bytes.
func digit(c byte) rune {
	switch {
	case c >= '0' && c <= '9':
		return rune(c - '0')
	case c >= 'a' && c <= 'f':
		return rune(c-'a') + 10
	case c >= 'A' && c <= 'F':
		return rune(c-'A') + 10
	}
	return -1
}

// Sign tells how a sign stands in a text, where some must be escaped.
func Sign(r rune, escaped string) string {
	switch r {
	case '\n':
		return `\n`
	case '\t':
		return `\t`
	case '\r':
		return `\r`
	}
	bytes, ok := utf.Encode(r)
	switch {
	case r == '\\' || ok && strings.Contains(escaped, bytes):
		return `\` + bytes
	case ok && r >= 0x20 && r != 0x7f:
		return bytes
	}
	return `\u{` + strconv.FormatInt(int64(r), 16) + "}"
}
