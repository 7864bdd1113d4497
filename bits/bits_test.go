package bits

import (
	"math"
	"slices"
	"testing"
)

func numbers() []int { return []int{0, 1, 2, 63, 64, 65, 127, 128, 65535} }

// sets tells sets of the tests, of which some are not tidy.
func sets() []Set {
	l := []Set{nil, {}, {0}, {0, 0, 0}, {5, 0}, {1 << 63}, {0, 1}, make(Set, 1024), make(Set, 1030)}
	l[7][1023] = 1 << 63
	l[8][3], l[8][1024], l[8][1029] = 7, 9, 1
	for n := 0; n < 512; n += 7 {
		var in []int
		for i, x := range numbers() {
			if n>>i&1 == 1 {
				in = append(in, x)
			}
		}
		l = append(l, Of(in...))
	}
	return l
}

func tidy(s Set) bool { return len(s) <= 1024 && (len(s) == 0 || s[len(s)-1] != 0) }

func asked() []int {
	return append(numbers(), 3, 62, 66, 192, 193, 65534, -1, 65536, 65600, math.MaxInt, math.MinInt)
}

func TestOne(t *testing.T) {
	if s := Of(1, 64, -1, 65536, math.MaxInt, math.MinInt, 1); !slices.Equal(s, Set{2, 1}) || !slices.Equal(s.List(), []int{1, 64}) {
		t.Error(s)
	}
	if len(Of()) != 0 || len(Of(-1, 65536)) != 0 || Of(65535).List()[0] != 65535 {
		t.Error("edges")
	}
	for _, s := range sets() {
		var l []int
		for n := 0; n < 65536; n++ {
			if s.Has(n) {
				l = append(l, n)
			}
		}
		if !slices.Equal(s.List(), l) || s.Count() != len(l) || !s.Same(Of(l...)) || !tidy(Of(l...)) {
			t.Fatal(s.List(), l)
		}
		for _, from := range asked() {
			want := -1
			for _, n := range l {
				if n >= from {
					want = n
					break
				}
			}
			if got := s.Next(from); got != want {
				t.Fatal(l, from, got)
			}
		}
	}
	if (Set{1}).Has(-64) || (Set{1}).Has(math.MinInt) || sets()[8].Has(65536) {
		t.Error("has")
	}
}

func TestWithAndWithout(t *testing.T) {
	for _, s := range sets() {
		for _, n := range asked() {
			with, without := s.With(n), s.Without(n)
			if !tidy(with) || !tidy(without) || with.Has(n) != (n >= 0 && n < 65536) || without.Has(n) {
				t.Fatal(s, n)
			}
			for _, m := range asked() {
				if m != n && (with.Has(m) != s.Has(m) || without.Has(m) != s.Has(m)) {
					t.Fatal(s, n, m)
				}
			}
		}
	}
}

func TestTwo(t *testing.T) {
	for _, a := range sets() {
		for _, b := range sets() {
			or, and, less := a.Or(b), a.And(b), a.Less(b)
			if !tidy(or) || !tidy(and) || !tidy(less) || or.Count()+and.Count() != a.Count()+b.Count() || less.Count() != a.Count()-and.Count() {
				t.Fatal(a.List(), b.List())
			}
			for _, n := range asked() {
				x, y := a.Has(n), b.Has(n)
				if or.Has(n) != (x || y) || and.Has(n) != (x && y) || less.Has(n) != (x && !y) {
					t.Fatal(a.List(), b.List(), n)
				}
			}
			same := slices.Equal(a.List(), b.List())
			if a.Same(b) != same || (a.Key() == b.Key()) != same {
				t.Fatal(a.List(), b.List())
			}
		}
	}
}

func TestKey(t *testing.T) {
	if k := (Set{0x0807060504030201, 1, 0}).Key(); k != "\x01\x02\x03\x04\x05\x06\x07\x08\x01\x00\x00\x00\x00\x00\x00\x00" {
		t.Errorf("%x", k)
	}
	if (Set{0}).Key() != "" || len(sets()[8].Key()) != 32 {
		t.Error("tidy")
	}
}

func TestNewMemory(t *testing.T) {
	room := make(Set, 2, 8)
	room[0], room[1] = 3, 4
	behind := room[:8]
	for _, s := range []Set{room.With(1), room.With(200), room.With(-1), room.Without(0), room.Or(nil), Set(nil).Or(room), room.And(room), room.Less(nil)} {
		for i := range s[:cap(s)] {
			s[:cap(s)][i] = 99
		}
	}
	if !slices.Equal(behind, Set{3, 4, 0, 0, 0, 0, 0, 0}) {
		t.Error(behind)
	}
}
