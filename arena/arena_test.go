package arena

import (
	"math"
	"math/rand"
	"slices"
	"strings"
	"testing"

	"souffleur/api"
	"souffleur/atn"
)

func names() (atn.Atn, []string) {
	return atn.Atn{Names: []string{"s", "t", "u"}}, []string{"x", "y", "z"}
}

func TestMaker(t *testing.T) {
	a, types := names()
	m := Begin()
	if len(m.Tree().Nodes) != 0 || m.Leaf(0) != api.ErrState || m.Shut() != api.ErrState || m.Open(-1) != api.ErrArg || m.Leaf(-1) != api.ErrState || m.Tree().Right() {
		t.Error("begin")
	}
	for i, c := range []struct {
		code api.Errno
		want api.Errno
		text string
	}{
		{m.Open(0), api.OK, ""}, {m.Leaf(-1), api.ErrArg, ""}, {m.Leaf(1), api.OK, ""}, {m.Open(1), api.OK, ""}, {m.Open(2), api.OK, ""}, {m.Shut(), api.OK, ""}, {m.Leaf(7), api.OK, ""}, {m.Open(math.MaxInt), api.OK, ""},
	} {
		if c.code != c.want {
			t.Error(i, c.code)
		}
	}
	open := m.Tree()
	want := Tree{[]Node{{Arg: 0, To: 2, Kids: []int{1, 2}, Open: true}, {Token: true, Arg: 1, To: 1}, {Arg: 1, From: 1, To: 2, Kids: []int{3, 4, 5}, Open: true}, {Arg: 2, From: 1, To: 1}, {Token: true, Arg: 7, From: 1, To: 2}, {Arg: math.MaxInt, From: 2, To: 2, Open: true}}}
	if !open.Same(want) || !open.Right() || open.Text(a, types) != "(s y (t (u) ? (?........." {
		t.Error(open, open.Text(a, types))
	}
	if !slices.Equal(open.Leaves(), []int{1, 7}) || open.Depth() != 3 || open.Count(2) != 1 || open.Count(7) != 0 || !slices.Equal(open.At(1), []int{0, 2, 4}) || len(open.At(2)) != 0 || len(open.At(-1)) != 0 {
		t.Error("calls")
	}
	m.Shut()
	m.Shut()
	m.Leaf(0)
	m.Shut()
	if m.Shut() != api.ErrState || m.Leaf(-1) != api.ErrState || m.Open(-1) != api.ErrState || m.Open(0) != api.ErrState {
		t.Error("ended")
	}
	done := m.Tree()
	if done.Text(a, types) != "(s y (t (u) ? (?)) x)" || !done.Right() || done.Nodes[0].To != 3 || !open.Same(want) {
		t.Error(done.Text(a, types))
	}
	done.Nodes[0].Kids[0] = 9
	done.Nodes[1].Arg = 9
	if m.Tree().Text(a, types) != "(s y (t (u) ? (?)) x)" {
		t.Error("shared")
	}
}

func TestPlain(t *testing.T) {
	for _, m := range []*Maker{nil, {}} {
		if m.Open(-1) != api.ErrNil || m.Leaf(-1) != api.ErrNil || m.Shut() != api.ErrNil || len(m.Tree().Nodes) != 0 {
			t.Error("plain")
		}
	}
}

func TestExample(t *testing.T) {
	a, types := names()
	m := Begin()
	m.Open(0)
	m.Leaf(0)
	m.Shut()
	if m.Tree().Text(a, types) != "(s x)" {
		t.Error(m.Tree())
	}
}

func TestWhatIsMadeIsRight(t *testing.T) {
	r := rand.New(rand.NewSource(16))
	a, types := names()
	for range 2000 {
		m := Begin()
		m.Open(0)
		var leaves []int
		open, depth, count := 1, 1, 0
		for range r.Intn(30) {
			switch r.Intn(3) {
			case 0:
				if m.Open(2) == api.OK {
					open++
					count++
					depth = max(depth, open)
				}
			case 1:
				if m.Leaf(len(leaves)%3) == api.OK {
					leaves = append(leaves, len(leaves)%3)
					depth = max(depth, open+1)
				}
			default:
				if m.Shut() == api.OK {
					open--
				}
			}
		}
		x := m.Tree()
		if !x.Right() || !slices.Equal(x.Leaves(), leaves) || x.Depth() != depth || x.Count(2) != count || strings.Count(x.Text(a, types), "...") != open || strings.Count(x.Text(a, types), ")") != count+1-open {
			t.Fatal(x)
		}
		for i := range leaves {
			row := x.At(i)
			n := x.Nodes[row[len(row)-1]]
			if row[0] != 0 || !n.Token || n.From != i {
				t.Fatal(x, row)
			}
			for k := 1; k < len(row); k++ {
				if !slices.Contains(x.Nodes[row[k-1]].Kids, row[k]) {
					t.Fatal(x, row)
				}
			}
		}
	}
}

func TestNotRight(t *testing.T) {
	a, types := names()
	leaf := func(from int) Node { return Node{Token: true, From: from, To: from + 1} }
	for i, x := range []Tree{
		{}, {[]Node{leaf(0)}}, {[]Node{{From: 1, To: 1}}}, {[]Node{{To: 1}}}, {[]Node{{To: 1, Kids: []int{0}}}}, {[]Node{{To: 1, Kids: []int{2}}, leaf(0)}}, {[]Node{{To: 1, Kids: []int{-1}}, leaf(0)}},
		{[]Node{{}, leaf(0)}}, {[]Node{{To: 2, Kids: []int{1, 1}}, leaf(0)}}, {[]Node{{To: 2, Kids: []int{2, 1}}, leaf(1), leaf(0)}}, {[]Node{{To: 2, Kids: []int{1, 2}}, leaf(0), leaf(0)}},
		{[]Node{{To: 2, Kids: []int{1}}, leaf(0)}}, {[]Node{{To: 2, Kids: []int{1}}, leaf(1)}}, {[]Node{{To: 1, Kids: []int{1}}, {Token: true, To: 1, Open: true}}}, {[]Node{{To: 0, Kids: []int{1}}, {Token: true}}},
		{[]Node{{To: 1, Kids: []int{1}}, {Token: true, To: 1, Kids: []int{2}}, {From: 1, To: 1}}}, {[]Node{{Kids: []int{1}}, {Open: true}}}, {[]Node{{Kids: []int{1, 2}, Open: true}, {Open: true}, {}}},
		{[]Node{{Kids: []int{1}}, {Kids: []int{2}}, {Kids: []int{2}}}}, {[]Node{{Kids: []int{1, 2}}, {Kids: []int{2}}, {}}}, {[]Node{{Kids: []int{1}, To: math.MinInt}, {Token: true, From: math.MaxInt, To: math.MinInt}}},
	} {
		if x.Right() || len(x.Leaves()) != 0 || x.Depth() != 0 || x.Count(0) != 0 || x.Text(a, types) != "" || len(x.At(0)) != 0 || !x.Same(x) {
			t.Error(i, x)
		}
	}
	// Nodes need not come in the order in which a maker makes them.
	good := Tree{[]Node{{To: 2, Kids: []int{2, 3}, Open: true}, {Token: true, Arg: 1, To: 1}, {To: 1, Kids: []int{4}}, {From: 1, To: 2, Kids: []int{5}, Open: true}, {To: 1, Kids: []int{6}}, leaf(1), leaf(0)}}
	good.Nodes[1] = Node{To: 0, From: 0}
	good.Nodes[2].Kids = []int{4}
	if good.Right() {
		t.Error("a node that is nobody's")
	}
	good.Nodes[0].Kids = []int{1, 2, 3}
	if !good.Right() || good.Text(a, types) != "(s (s) (s (s x)) (s x......" || good.Depth() != 4 || !slices.Equal(good.At(0), []int{0, 2, 4, 6}) {
		t.Error(good.Right(), good.Text(a, types))
	}
	if good.Same(Tree{}) || (Tree{}).Same(good) {
		t.Error("same")
	}
}

func TestDeep(t *testing.T) {
	m := Begin()
	for range 1 << 20 {
		m.Open(0)
	}
	a, types := names()
	if x := m.Tree(); x.Depth() != 1<<20 || len(x.Text(a, types)) != 2+(1<<20-1)*3+(1<<20)*3 {
		t.Error(x.Depth(), len(x.Text(a, types)))
	}
}
