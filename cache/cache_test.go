package cache

import (
	"math"
	"math/rand"
	"slices"
	"strconv"
	"testing"

	"souffleur/api"
)

// slow is a cache as a list, who was asked for last first.
type slow struct {
	room  int
	keys  []string
	n     map[string]int
	stats [3]int
}

func (s *slow) last(key string) {
	s.keys = slices.DeleteFunc(s.keys, func(k string) bool { return k == key })
	s.keys = slices.Insert(s.keys, 0, key)
}

func (s *slow) shrink() {
	for len(s.keys) > s.room {
		s.keys = s.keys[:len(s.keys)-1]
		s.stats[2]++
	}
}

func TestRandom(t *testing.T) {
	r := rand.New(rand.NewSource(15))
	for range 300 {
		room := r.Intn(6) - 1
		c := New(room)
		s := &slow{room: max(room, 0), n: map[string]int{}}
		for range 200 {
			key := strconv.Itoa(r.Intn(8))
			switch r.Intn(12) {
			case 0:
				s.room = r.Intn(6)
				c.Resize(s.room)
				s.shrink()
			case 1:
				if r.Intn(4) == 0 {
					c.Clear()
					s.keys = nil
				}
			case 2, 3, 4, 5:
				n := r.Int()
				c.Put(key, n)
				s.n[key] = n
				if s.room > 0 {
					s.last(key)
					s.shrink()
				}
			default:
				n, ok := c.Get(key)
				if ok != slices.Contains(s.keys, key) || ok && n != s.n[key] || !ok && n != 0 {
					t.Fatal(key, n, ok)
				}
				if ok {
					s.stats[0]++
					s.last(key)
				} else {
					s.stats[1]++
				}
			}
			if !slices.Equal(c.Keys(), s.keys) || c.Long() != len(s.keys) || c.Room() != s.room || c.Stats() != s.stats || c.Long() > c.Room() {
				t.Fatal(c.Keys(), s.keys, c.Stats(), s.stats)
			}
		}
	}
}

func TestRoom(t *testing.T) {
	for room, want := range map[int]int{-1: 0, 0: 0, 1: 1, 4096: 4096, 4097: 4096, math.MaxInt: 4096, math.MinInt: 0} {
		c := New(room)
		d := New(7)
		d.Resize(room)
		if c.Room() != want || d.Room() != want || c.Long() != 0 {
			t.Error(room, c.Room())
		}
	}
	c := New(1)
	c.Put("a", 1)
	c.Put("b", 2)
	if _, ok := c.Get("a"); ok || c.Stats() != [3]int{0, 1, 1} {
		t.Error(c.Stats())
	}
	c.Resize(0)
	c.Put("x", 1)
	if c.Long() != 0 || c.Stats() != [3]int{0, 1, 2} {
		t.Error(c.Stats())
	}
	big := New(math.MaxInt)
	for i := range 5000 {
		big.Put(strconv.Itoa(i), i)
	}
	if big.Long() != api.MaxCache || big.Stats()[2] != 5000-api.MaxCache || big.Keys()[0] != "4999" {
		t.Error(big.Long())
	}
	k := big.Keys()
	k[0] = "z"
	if big.Keys()[0] != "4999" {
		t.Error("shared")
	}
}

func TestPlain(t *testing.T) {
	for _, c := range []*Cache{nil, {}} {
		c.Put("a", 1)
		c.Resize(5)
		c.Clear()
		n, ok := c.Get("a")
		if n != 0 || ok || c.Long() != 0 || c.Room() != 0 || c.Stats() != [3]int{} || len(c.Keys()) != 0 {
			t.Error("plain")
		}
	}
}
