package viable

import (
	"math"
	"slices"
	"testing"

	"souffleur/api"
	"souffleur/atn"
	"souffleur/closure"
	"souffleur/gram"
	"souffleur/left"
	"souffleur/sim"
	"souffleur/vocab"
)

const lots = 1 << 30

func walk(t *testing.T, s string) *closure.Walk {
	t.Helper()
	g, stop := gram.Read(s)
	if stop.Code != api.OK {
		t.Fatal(s, stop)
	}
	a, _ := atn.Of(g, vocab.Of(g))
	a, code, _ := left.Ready(a)
	w, code2 := closure.New(a)
	if code != api.OK || code2 != api.OK {
		t.Fatal(s, code, code2)
	}
	return w
}

func TestKeep(t *testing.T) {
	w := walk(t, "a: 'x' 'y';")
	for _, c := range []struct {
		types, in, out []int
		whole          bool
	}{
		{[]int{1, 0, 0, 1}, []int{1, 3}, []int{0, 2}, true}, {nil, nil, nil, false}, {[]int{0}, []int{0}, nil, false}, {[]int{0, 1}, []int{0, 1}, nil, true},
		{[]int{-1, -2, 7, math.MaxInt, 0, math.MinInt, 1, 1}, []int{4, 6}, []int{0, 1, 2, 3, 5, 7}, true},
	} {
		k, s, code := Keep(w, c.types, lots)
		if !slices.Equal(k.In, c.in) || !slices.Equal(k.Out, c.out) || code != api.OK || s.Long() != len(c.in) || s.Ends() != c.whole {
			t.Error(c.types, k, code)
		}
		prefix, code := Prefix(w, c.types, lots)
		whole, code2 := Sentence(w, c.types, lots)
		if code != api.OK || code2 != api.OK || prefix != (len(c.out) == 0) || whole != (prefix && c.whole) {
			t.Error(c.types, prefix, whole)
		}
	}
}

func TestErrors(t *testing.T) {
	w := walk(t, "a: b 'x' | 'y'; b: 'x'* ;")
	for _, x := range []*closure.Walk{nil, {}} {
		k, s, code := Keep(x, []int{0}, lots)
		prefix, code2 := Prefix(x, nil, lots)
		whole, code3 := Sentence(x, nil, lots)
		if len(k.In)+len(k.Out) != 0 || s != nil || code != api.ErrNil || prefix || code2 != api.ErrNil || whole || code3 != api.ErrNil {
			t.Error(code)
		}
	}
	types := []int{0, 1, 0, 0}
	_, full, _ := Keep(w, types, lots)
	for most := -1; most <= full.Steps(); most++ {
		k, s, code := Keep(w, types, most)
		prefix, code2 := Prefix(w, types, most)
		whole, code3 := Sentence(w, types, most)
		if most == full.Steps() {
			if code != api.OK || prefix || whole || code2 != api.OK {
				t.Error(code)
			}
			continue
		}
		if code != api.ErrBudget || s != nil || len(k.In)+len(k.Out) != 0 || prefix || whole || code2 != api.ErrBudget || code3 != api.ErrBudget {
			t.Error(most, code)
		}
	}
	if ok, code := Sentence(w, []int{0, 0, 0}, lots); !ok || code != api.OK {
		t.Error(code)
	}
}

func TestTypes(t *testing.T) {
	k := Kept{In: []int{2, 0, -1, 3, 1, math.MaxInt, math.MinInt}}
	if got := k.Types([]int{7, 8, 9}); !slices.Equal(got, []int{9, 7, 8}) || len(k.Types(nil)) != 0 || len((Kept{}).Types([]int{1})) != 0 {
		t.Error(got)
	}
}

func TestWhatIsKept(t *testing.T) {
	w := walk(t, "s: t ('+' t)*; t: '(' s ')' | 'n' | 'f' '(' (s (',' s)*)? ')';")
	row := make([]int, 7)
	for n := range 7 * 7 * 7 * 7 * 7 * 7 {
		for i, x := 0, n; i < len(row); i, x = i+1, x/6 {
			row[i] = x%6 + n%2*i%2
		}
		if n%23 != 0 {
			continue
		}
		k, s, code := Keep(w, row, lots)
		kept := k.Types(row)
		if code != api.OK || len(k.In)+len(k.Out) != len(row) || s.Long() != len(kept) {
			t.Fatal(row, k)
		}
		if ok, _ := Prefix(w, kept, lots); !ok {
			t.Fatal(row, k)
		}
		for _, out := range k.Out {
			var ahead []int
			for _, in := range k.In {
				if in < out {
					ahead = append(ahead, row[in])
				}
			}
			x, _ := sim.New(w, lots)
			for _, ty := range ahead {
				x.Feed(ty)
			}
			if x.Offers().Has(row[out]) {
				t.Fatal(row, k, out)
			}
		}
	}
}
