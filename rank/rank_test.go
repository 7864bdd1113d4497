package rank

import (
	"math"
	"math/rand"
	"slices"
	"testing"
)

func TestWeightAndKey(t *testing.T) {
	for _, c := range []struct {
		e    Entry
		want int
		key  complex128
	}{
		{Entry{}, 0, 0}, {Entry{Literal: true, Clean: true, Uses: 2}, 42, 42}, {Entry{Kind: Rule, ID: 3}, 4, 4 + 13i}, {Entry{Kind: End, ID: -1}, 1, 1 + 2i},
		{Entry{Uses: -5, ID: math.MinInt, Kind: math.MinInt}, 0, 0}, {Entry{Uses: math.MaxInt, ID: math.MaxInt, Kind: math.MaxInt}, 1 << 24, 1<<24 + (1<<22+3)*1i},
		{Entry{Uses: 1 << 20, ID: 1 << 20, Kind: 3, Clean: true}, 1<<24 + 8, 1<<24 + 8 + (1<<22+3)*1i}, {Entry{Uses: 1, ID: 1, Name: "x"}, 16, 16 + 4i},
	} {
		if Weight(c.e) != c.want || Key(c.e) != c.key {
			t.Error(c.e, Weight(c.e), Key(c.e))
		}
	}
}

func entries(r *rand.Rand, n int) []Entry {
	var l []Entry
	for range n {
		l = append(l, Entry{Kind: r.Intn(5) - 1, ID: r.Intn(5) - 2, Name: string(rune('a' + r.Intn(26))), Literal: r.Intn(2) == 0, Clean: r.Intn(2) == 0, Uses: r.Intn(4) - 1})
	}
	return l
}

func TestSort(t *testing.T) {
	r := rand.New(rand.NewSource(18))
	for range 2000 {
		l := entries(r, r.Intn(12))
		before := slices.Clone(l)
		s := Sort(l)
		if !slices.Equal(l, before) || len(s) != len(l) || !slices.Equal(Sort(s), s) {
			t.Fatal(l)
		}
		for i, a := range s {
			for _, b := range s[i+1:] {
				if Ahead(b, a) {
					t.Fatal(s)
				}
			}
		}
		// Put in one by one, behind all that it is not ahead of, each stands where it must.
		var slow []Entry
		for _, e := range l {
			i := len(slow)
			for i > 0 && Ahead(e, slow[i-1]) {
				i--
			}
			slow = slices.Insert(slow, i, e)
		}
		if !slices.Equal(s, slow) {
			t.Fatal(s, slow)
		}
		for _, n := range []int{math.MinInt, -1, 0, 1, 3, len(l), len(l) + 1, math.MaxInt} {
			if !slices.Equal(Top(l, n), s[:min(max(n, 0), len(s))]) {
				t.Fatal(n)
			}
		}
		if len(s) > 0 {
			i := r.Intn(len(s))
			more := slices.Clone(s)
			more[i].Uses++
			x := more[i]
			if slices.Index(Sort(more), x) > i {
				t.Fatal(s, i)
			}
			s[0].Name = "?"
			if !slices.Equal(l, before) {
				t.Fatal("shared")
			}
		}
	}
}

func TestAhead(t *testing.T) {
	a, b := Entry{Uses: 1, ID: 9}, Entry{ID: 1}
	if !Ahead(a, b) || Ahead(b, a) || Ahead(a, a) || !Ahead(b, Entry{ID: 2}) || !Ahead(Entry{Kind: Token, ID: 1}, Entry{Kind: 3, ID: 1}) || Ahead(Entry{Name: "a"}, Entry{Name: "b"}) || Ahead(Entry{ID: math.MaxInt}, Entry{ID: 1 << 20}) || Ahead(Entry{ID: -3}, Entry{}) || Ahead(Entry{}, Entry{ID: -3}) {
		t.Error("ahead")
	}
}

func TestFind(t *testing.T) {
	l := []Entry{{Kind: 0, ID: 1}, {Kind: 1, ID: 1}, {Kind: 2, ID: -1}, {Kind: 1, ID: 1, Name: "z"}}
	for _, c := range [][3]int{{0, 1, 0}, {1, 1, 1}, {2, -1, 2}, {0, 0, -1}, {3, 1, -1}, {math.MaxInt, math.MinInt, -1}} {
		if got := Find(l, c[0], c[1]); got != c[2] {
			t.Error(c, got)
		}
	}
	if Find(nil, 0, 0) != -1 || len(Sort(nil)) != 0 || len(Top(nil, 3)) != 0 {
		t.Error("none")
	}
}
