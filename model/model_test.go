package model

import (
	"cmp"
	"math"
	"slices"
	"strings"
	"testing"

	"souffleur/api"
	"souffleur/atn"
	"souffleur/closure"
	"souffleur/gram"
	"souffleur/left"
	"souffleur/viable"
	"souffleur/vocab"
)

const lots = 1 << 30

func walk(t *testing.T, s string) *closure.Walk {
	t.Helper()
	g, stop := gram.Read(s)
	if stop.Code != api.OK {
		t.Fatal(s, stop)
	}
	a, _ := atn.Of(g, vocab.Of(g))
	a, code, _ := left.Ready(a)
	w, code2 := closure.New(a)
	if code != api.OK || code2 != api.OK {
		t.Fatal(s, code, code2)
	}
	return w
}

// each goes through all rows of types of so many tokens.
func each(types, tokens int, do func([]int)) {
	row := make([]int, tokens)
	for {
		do(row)
		i := tokens - 1
		for ; i >= 0 && row[i] == types-1; i-- {
			row[i] = 0
		}
		if i < 0 {
			return
		}
		row[i]++
	}
}

func grammars() []string {
	return []string{"a: 'x' a?;", "s: t ('+' t)*; t: '(' s ')' | 'n' | ;", "a: 'x' a | 'x' | b 'y'; b: 'x' 'z'* | ;", "s: 'x' s 'y' | 'x' s | ;", "s: ;", "s: 'x' 'y' | 'y' 'x' 'z';"}
}

func TestAllAndPrefixes(t *testing.T) {
	for _, text := range grammars() {
		w := walk(t, text)
		var want [][]int
		for n := range 6 {
			begins := 0
			each(max(w.Atn().Types, 1), n, func(row []int) {
				if ok, _ := viable.Prefix(w, row, lots); ok {
					begins++
				}
				if ok, _ := viable.Sentence(w, row, lots); ok {
					want = append(want, slices.Clone(row))
				}
			})
			if got, code := Prefixes(w, n); got != begins || code != api.OK {
				t.Fatal(text, n, got, begins)
			}
			if !slices.IsSortedFunc(want, func(x, y []int) int { return cmp.Or(cmp.Compare(len(x), len(y)), slices.Compare(x, y)) }) {
				t.Fatal("order")
			}
			for _, most := range []int{0, 1, 3, len(want), 1000} {
				rows, more, code := All(w, n, most)
				k := min(most, len(want))
				if code != api.OK || more != (len(want) > k) || !slices.EqualFunc(rows, want[:k], func(x, y []int) bool { return slices.Equal(x, y) }) {
					t.Fatal(text, n, most, rows, more)
				}
			}
		}
	}
}

func TestFinish(t *testing.T) {
	for _, text := range grammars() {
		w := walk(t, text)
		types := max(w.Atn().Types, 1)
		for n := range 5 {
			each(types, n, func(row []int) {
				var want []int
				found := false
				if ok, _ := viable.Prefix(w, row, lots); ok {
					for more := 0; more < 5 && !found; more++ {
						each(types, more, func(tail []int) {
							if ok, _ := viable.Sentence(w, slices.Concat(row, tail), lots); ok && !found {
								want, found = slices.Clone(tail), true
							}
						})
					}
				}
				before := slices.Clone(row)
				got, ok := Finish(w, row, 4)
				if !slices.Equal(got, want) || ok != found || !slices.Equal(row, before) {
					t.Fatal(text, row, got, want)
				}
				if found {
					if _, ok := Finish(w, row, len(want)-1); ok != (len(want) == 0) {
						t.Fatal(text, row)
					}
					if got, ok := Finish(w, row, math.MaxInt); !ok || !slices.Equal(got, want) {
						t.Fatal(text, row)
					}
				}
			})
		}
	}
	w := walk(t, "s: 'x' 'x' 'x' 'x' 'x' 'x' 'x' 'x' 'x' 'x' 'x' 'x' 'x';")
	if _, ok := Finish(w, nil, 99); ok {
		t.Error("thirteen")
	}
	if got, ok := Finish(w, []int{0}, 99); !ok || len(got) != 12 {
		t.Error("twelve")
	}
	for _, row := range [][]int{{-1}, {1}, {math.MaxInt}, make([]int, 14)} {
		if got, ok := Finish(w, row, 9); ok || len(got) != 0 {
			t.Error(row)
		}
	}
}

func TestErrors(t *testing.T) {
	for _, w := range []*closure.Walk{nil, {}} {
		rows, more, code := All(w, -1, -1)
		n, code2 := Prefixes(w, -1)
		row, ok := Finish(w, nil, 3)
		if len(rows) != 0 || more || code != api.ErrNil || n != 0 || code2 != api.ErrNil || len(row) != 0 || ok {
			t.Error(code)
		}
	}
	w := walk(t, "a: 'x'?;")
	for _, c := range [][2]int{{-1, 0}, {13, 0}, {0, -1}, {0, 1001}, {math.MaxInt, math.MinInt}} {
		if rows, more, code := All(w, c[0], c[1]); len(rows) != 0 || more || code != api.ErrArg {
			t.Error(c, code)
		}
	}
	for _, n := range []int{-1, 13, math.MinInt} {
		if got, code := Prefixes(w, n); got != 0 || code != api.ErrArg {
			t.Error(n, code)
		}
	}
	if rows, more, code := All(w, 12, 1000); len(rows) != 2 || more || code != api.OK {
		t.Error(rows)
	}
	if n, code := Prefixes(w, 12); n != 0 || code != api.OK {
		t.Error(n)
	}
}

func TestBig(t *testing.T) {
	// 27 types: of three tokens there are 19683 beginnings, of four too many.
	var alts []string
	for c := 'a'; c <= 'z'; c++ {
		alts = append(alts, "'"+string(c)+"'")
	}
	w := walk(t, "s: t*; t: '0' | "+strings.Join(alts, "|")+";")
	if n, code := Prefixes(w, 3); n != 19683 || code != api.OK {
		t.Error(n, code)
	}
	if n, code := Prefixes(w, 4); n != 0 || code != api.ErrBig {
		t.Error(n, code)
	}
	if rows, more, code := All(w, 3, 1); len(rows) != 1 || !more || code != api.OK {
		t.Error(code)
	}
	if rows, more, code := All(w, 4, 0); len(rows) != 0 || more || code != api.ErrBig {
		t.Error(code)
	}
	w = walk(t, "s: t t t t; t: '0' | "+strings.Join(alts, "|")+";")
	if row, ok := Finish(w, nil, 12); ok || len(row) != 0 {
		t.Error(row)
	}
	if row, ok := Finish(w, []int{5}, 12); !ok || !slices.Equal(row, []int{0, 0, 0}) {
		t.Error(row)
	}
}
