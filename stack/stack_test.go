package stack

import (
	"math"
	"math/rand"
	"slices"
	"testing"

	"souffleur/api"
)

func same(a, b *Stack) bool {
	if a.Long() != b.Long() || a.Links() != b.Links() {
		return false
	}
	for i := range a.Long() {
		if a.Ret(i) != b.Ret(i) || a.At(i) != b.At(i) || !slices.Equal(a.Ups(i), b.Ups(i)) || i > 0 && b.Find(a.Ret(i), a.At(i)) != i {
			return false
		}
	}
	return true
}

func TestPut(t *testing.T) {
	s := New()
	if s.Long() != 1 || s.Links() != 0 || s.Ret(0) != -1 || s.At(0) != 0 || len(s.Ups(0)) != 0 || s.Find(-1, 0) != -1 {
		t.Error("new")
	}
	for i, c := range []struct {
		ret, at, up, node int
		fresh, link       bool
		code              api.Errno
	}{
		{5, 0, 0, 1, true, true, api.OK}, {5, 0, 0, 1, false, false, api.OK}, {5, 1, 1, 2, true, true, api.OK}, {5, 0, 2, 1, false, true, api.OK},
		{5, 0, 1, 1, false, true, api.OK}, {0, 0, 0, 3, true, true, api.OK}, {-1, 0, 0, 0, false, false, api.ErrArg}, {0, -1, 0, 0, false, false, api.ErrArg},
		{0, 0, 4, 0, false, false, api.ErrArg}, {0, 0, -1, 0, false, false, api.ErrArg}, {9, 9, math.MaxInt, 0, false, false, api.ErrArg}, {math.MaxInt, math.MaxInt, 3, 4, true, true, api.OK},
		{math.MinInt, 0, 0, 0, false, false, api.ErrArg},
	} {
		node, fresh, link, code := s.Put(c.ret, c.at, c.up)
		if node != c.node || fresh != c.fresh || link != c.link || code != c.code {
			t.Error(i, node, fresh, link, code)
		}
	}
	if s.Long() != 5 || s.Links() != 6 || !slices.Equal(s.Ups(1), []int{0, 2, 1}) || s.Find(5, 1) != 2 || s.Find(6, 1) != -1 || s.Find(math.MaxInt, math.MaxInt) != 4 {
		t.Error(s)
	}
	for _, n := range []int{-1, 5, math.MaxInt, math.MinInt} {
		if s.Ret(n) != -1 || s.At(n) != -1 || len(s.Ups(n)) != 0 {
			t.Error(n)
		}
	}
	s.Ups(1)[0] = 9
	if s.Ups(1)[0] != 0 {
		t.Error("shared")
	}
}

func TestPlain(t *testing.T) {
	for _, s := range []*Stack{nil, {}} {
		node, fresh, link, code := s.Put(0, 0, 0)
		if node != 0 || fresh || link || code != api.ErrNil || s.Ret(0) != -1 || s.At(0) != -1 || len(s.Ups(0)) != 0 || s.Long() != 0 || s.Links() != 0 || s.Find(0, 0) != -1 || s.Clone() != nil || s.Cut(1) != nil {
			t.Error("plain")
		}
		if _, _, _, code := s.Put(-1, -1, -1); code != api.ErrNil {
			t.Error(code)
		}
	}
}

func TestRandom(t *testing.T) {
	r := rand.New(rand.NewSource(8))
	for range 300 {
		s := New()
		var places [][2]int
		ups := [][]int{nil}
		links := 0
		for range 200 {
			p := [2]int{r.Intn(4), r.Intn(5)}
			up := r.Intn(s.Long())
			n := slices.Index(places, p)
			fresh := n < 0
			if fresh {
				n = len(places)
				places = append(places, p)
				ups = append(ups, nil)
			}
			n++
			link := !slices.Contains(ups[n], up)
			if link {
				ups[n] = append(ups[n], up)
				links++
			}
			if a, b, c, code := s.Put(p[0], p[1], up); a != n || b != fresh || c != link || code != api.OK {
				t.Fatal(a, b, c, code)
			}
		}
		if s.Long() != len(ups) || s.Links() != links {
			t.Fatal(s.Long(), s.Links())
		}
		for i, l := range ups {
			if !slices.Equal(s.Ups(i), l) {
				t.Fatal(i)
			}
		}
		cut(t, s, ups)
	}
}

func cut(t *testing.T, s *Stack, ups [][]int) {
	c := s.Clone()
	if !same(s, c) {
		t.Fatal("clone")
	}
	for _, n := range []int{math.MinInt, -1, 0, 1, 2, 5, 7, s.Long() - 1, s.Long(), s.Long() + 1, math.MaxInt} {
		x := s.Cut(n)
		long := min(max(n, 1), s.Long())
		links := 0
		for i := range long {
			var want []int
			for _, up := range ups[i] {
				if up < long {
					want = append(want, up)
				}
			}
			links += len(want)
			if !slices.Equal(x.Ups(i), want) || x.Ret(i) != s.Ret(i) || x.At(i) != s.At(i) || i > 0 && x.Find(s.Ret(i), s.At(i)) != i {
				t.Fatal(n, i)
			}
		}
		if x.Long() != long || x.Links() != links {
			t.Fatal(n, x.Long(), x.Links())
		}
		if long < s.Long() && x.Find(s.Ret(long), s.At(long)) != -1 {
			t.Fatal(n)
		}
		x.Put(77, 77, 0)
	}
	if !same(s, c) {
		t.Fatal("changed")
	}
}

func TestBig(t *testing.T) {
	s := New()
	for i := 1; i < mostNodes; i++ {
		if n, _, _, code := s.Put(i, 0, 0); n != i || code != api.OK {
			t.Fatal(i, code)
		}
	}
	if n, fresh, link, code := s.Put(0, 1, 0); n != 0 || fresh || link || code != api.ErrBig {
		t.Error(n, code)
	}
	if n, fresh, link, code := s.Put(7, 0, 9); n != 7 || fresh || !link || code != api.OK {
		t.Error(n, code)
	}
	if _, _, _, code := s.Put(0, 1, mostNodes); code != api.ErrArg {
		t.Error(code)
	}
	if s.Long() != 1<<20 {
		t.Error(s.Long())
	}
}
