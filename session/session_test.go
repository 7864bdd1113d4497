package session

import (
	"math"
	"math/rand"
	"slices"
	"strings"
	"testing"

	"souffleur/api"
	"souffleur/bits"
	"souffleur/complete"
	"souffleur/edit"
	"souffleur/munch"
	"souffleur/offer"
	"souffleur/parse"
	"souffleur/utf"
)

const grammar = "s: st* ; st: 'if' e st | ID '=' e ';' | ';'; e: p ('+' p)*; p: ID | N | '(' e ')'; ID: [a-z]+ -> word; N: [0-9]+; S: [ \\n]+ -> skip; E: '\xe2\x82\xac' -> hidden;"

func same(a, b parse.Parsed) bool {
	return slices.Equal(a.Kept.In, b.Kept.In) && slices.Equal(a.Kept.Out, b.Kept.Out) && a.Tree.Same(b.Tree) && slices.Equal(a.Choices, b.Choices) && a.Whole == b.Whole
}

func TestExample(t *testing.T) {
	s := New(5)
	if f := s.Load("s: 'x';"); f != (complete.Fault{}) {
		t.Fatal(f)
	}
	a, code := s.Complete(0)
	if code != api.OK || len(a.Entries) != 1 || a.Entries[0].Name != "'x'" {
		t.Error(a, code)
	}
	s.Set("x")
	if a, code = s.Complete(1); code != api.OK || len(a.Entries) != 1 || a.Entries[0].Name != "EOF" {
		t.Error(a, code)
	}
}

func nothing(t *testing.T, s *Session, want api.Errno) {
	t.Helper()
	a, code := s.Complete(-7)
	p, code2 := s.Parse()
	if code != want || code2 != want || !a.Same(complete.Answer{}) || !same(p, parse.Parsed{}) {
		t.Error(code, code2)
	}
	for i, code := range []api.Errno{s.Set(strings.Repeat("x", api.MaxText+1)), s.Edit(edit.Edit{At: -1}), s.Want(offer.Want{}), s.Rows(-1), s.Accept(-1, -9)} {
		if code != want {
			t.Error(i, code)
		}
	}
	s.Clear()
	s.Resize(3)
	a2, names := s.Names()
	if s.Text() != "" || s.Uses(0, 0) != 0 || len(s.Tokens()) != 0 || s.Kept() != [2]int{} || s.Found() != 0 || a2.Long() != 0 || len(names) != 0 {
		t.Error("something")
	}
}

func TestPlainAndWithoutGrammar(t *testing.T) {
	for _, s := range []*Session{nil, {}} {
		nothing(t, s, api.ErrNil)
		if f := s.Load("s: 'x';"); f != (complete.Fault{Code: api.ErrNil}) {
			t.Error(f)
		}
		nothing(t, s, api.ErrNil)
	}
	s := New(9)
	nothing(t, s, api.ErrState)
	if f := s.Load("s: x;"); f != (complete.Fault{Code: api.ErrName, At: 3}) {
		t.Error(f)
	}
	nothing(t, s, api.ErrState)
}

func TestErrorsChangeNothing(t *testing.T) {
	s := New(9)
	s.Load(grammar)
	s.Set("x = \xe2\x82\xac1;")
	s.Accept(0, 1)
	s.Complete(3)
	s.Parse()
	kept := s.Kept()
	if kept[0] != 1 || kept[1] == 0 {
		t.Fatal(kept)
	}
	for i, c := range []struct{ got, want api.Errno }{
		{s.Set(strings.Repeat("x", api.MaxText+1)), api.ErrBig}, {s.Edit(edit.Edit{At: 99}), api.ErrArg}, {s.Edit(edit.Edit{At: 5}), api.ErrCaret}, {s.Edit(edit.Edit{Put: strings.Repeat("x", api.MaxText)}), api.ErrBig},
		{s.Rows(-1), api.ErrArg}, {s.Rows(api.MaxRoutes + 1), api.ErrArg}, {s.Accept(-1, 0), api.ErrArg}, {s.Accept(3, 0), api.ErrArg}, {s.Accept(0, -2), api.ErrArg}, {s.Accept(0, 65536), api.ErrArg}, {s.Accept(math.MinInt, math.MaxInt), api.ErrArg},
	} {
		if c.got != c.want {
			t.Error(i, c.got)
		}
	}
	for caret, want := range map[int]api.Errno{-1: api.ErrArg, 99: api.ErrArg, 5: api.ErrCaret} {
		if _, code := s.Complete(caret); code != want {
			t.Error(caret, code)
		}
	}
	if f := s.Load("s: ("); f.Code != api.ErrEnd || f.At != 4 {
		t.Error(f)
	}
	if s.Text() != "x = \xe2\x82\xac1;" || s.Kept() != kept || s.Uses(0, 1) != 1 || s.Found() != 0 {
		t.Error(s.Kept())
	}
	s.Complete(3)
	if s.Found() != 1 {
		t.Error(s.Found())
	}
}

func TestLoadAgain(t *testing.T) {
	s := New(9)
	s.Load(grammar)
	s.Set("x")
	s.Want(offer.Want{Rules: bits.Of(1, 2, 3), NoEnd: true})
	s.Rows(0)
	s.Accept(2, -1)
	s.Complete(0)
	s.Parse()
	if f := s.Load("s: a 'x'; a: 'y' | ;"); f.Code != api.OK {
		t.Fatal(f)
	}
	a, _ := s.Complete(0)
	if s.Text() != "" || s.Uses(2, -1) != 0 || s.Kept() != [2]int{1, 0} || len(a.Entries) != 2 || a.Entries[0].Kind != 0 {
		t.Error(a)
	}
	s.Want(offer.Want{Rules: bits.Of(1)})
	if a, _ = s.Complete(0); len(a.Entries) != 2 || len(a.Routes[0])+len(a.Routes[1]) != 1 {
		t.Error(a)
	}
	x, names := s.Names()
	if !slices.Equal(x.Names, []string{"s", "a"}) || !slices.Equal(names, []string{"'x'", "'y'"}) {
		t.Error(names)
	}
}

// fresh tells what is told of a session's text with nothing kept.
type fresh struct {
	l    *complete.Lang
	text string
	want offer.Want
	rows int
	uses complete.Uses
}

func (f *fresh) hold(t *testing.T, s *Session, caret int) {
	t.Helper()
	a, code := s.Complete(caret)
	b, code2 := f.l.Complete(f.text, caret, f.want, f.uses, f.rows, api.MaxBudget)
	if !a.Same(b) || code != code2 {
		t.Fatal(f.text, caret, a, b, code, code2)
	}
	for i := range a.Entries {
		a.Entries[i].Uses = -9
		for _, row := range a.Routes[i] {
			row[0] = -9
		}
	}
}

func (f *fresh) parse(t *testing.T, s *Session) {
	t.Helper()
	tokens := munch.Tokens(munch.All(f.l.Dfa(), f.text))
	if !slices.Equal(s.Tokens(), tokens) || s.Text() != f.text {
		t.Fatal(f.text, s.Tokens(), tokens)
	}
	p, code := s.Parse()
	q, code2 := parse.Parse(f.l.Walk(), munch.Types(munch.Seen(f.l.Vocab(), tokens)), api.MaxBudget, nil)
	if !same(p, q) || code != code2 {
		t.Fatal(f.text, p, q)
	}
}

// Whatever was found, kept, or let go, each answer is what it is without anything kept.
func TestNothingHangsOnWhatIsKept(t *testing.T) {
	r := rand.New(rand.NewSource(20))
	pieces := []string{"if", "x", " ", "=", "1", ";", "+", "(", ")", "\xe2\x82\xac", "\xac", "?", "\n"}
	for _, room := range []int{-3, 0, 1, 2, 3, 10, 5000} {
		s := New(room)
		s.Load(grammar)
		l, _ := complete.Load(grammar)
		f := &fresh{l: l, rows: 4, uses: complete.Uses{}}
		for range 400 {
			switch r.Intn(16) {
			case 0:
				f.text = ""
				for range r.Intn(10) {
					f.text += pieces[r.Intn(len(pieces))]
				}
				s.Set(f.text)
			case 1, 2, 3:
				at := r.Intn(len(f.text) + 1)
				e := edit.Edit{At: at, Cut: r.Intn(min(3, len(f.text)-at) + 1), Put: pieces[r.Intn(len(pieces))]}
				text, code := edit.Apply(f.text, e)
				if got := s.Edit(e); got != code {
					t.Fatal(got, code)
				}
				if code == api.OK {
					f.text = text
				}
			case 4:
				f.want = offer.Want{Rules: bits.Of(r.Intn(5), r.Intn(9)), Less: bits.Of(r.Intn(9)), NoEnd: r.Intn(2) == 0}
				w := offer.Want{Rules: f.want.Rules.Or(nil), Less: f.want.Less.Or(nil), NoEnd: f.want.NoEnd}
				s.Want(w)
				w.Rules[0], w.Less[0] = 77, 77
			case 5:
				f.rows = r.Intn(65)
				s.Rows(f.rows)
			case 6:
				kind, id := r.Intn(3), r.Intn(6)-1
				f.uses[[2]int{kind, id}]++
				s.Accept(kind, id)
				if s.Uses(kind, id) != f.uses[[2]int{kind, id}] {
					t.Fatal("uses")
				}
			case 7:
				if r.Intn(3) == 0 {
					s.Clear()
					if s.Kept() != [2]int{} {
						t.Fatal(s.Kept())
					}
				} else {
					room = r.Intn(12) - 1
					s.Resize(room)
				}
			case 8, 9:
				f.parse(t, s)
			default:
				f.hold(t, s, r.Intn(len(f.text)+2))
				f.hold(t, s, r.Intn(min(3, len(f.text)+1)))
			}
			if k, most := s.Kept(), min(max(room, 0), api.MaxCache); k[0] > most || k[1] > most || len(s.told) != k[0] {
				t.Fatal(k, room)
			}
		}
		if room > 0 && s.Found() == 0 {
			t.Error("nothing was found")
		}
	}
}

func TestKeptAndFound(t *testing.T) {
	s := New(2)
	s.Load(grammar)
	s.Set("x = 1;")
	at := func(carets ...int) int {
		before := s.Found()
		for _, c := range carets {
			if _, code := s.Complete(c); code != api.OK {
				t.Fatal(code)
			}
		}
		return s.Found() - before
	}
	if n := at(0, 0, 1, 0, 2, 0, 1); n != 3 || s.Kept()[0] != 2 {
		t.Error(n, s.Kept())
	}
	for i, change := range []func() api.Errno{
		func() api.Errno { return s.Set(s.Text()) }, func() api.Errno { return s.Edit(edit.Edit{}) }, func() api.Errno { return s.Want(offer.Want{}) }, func() api.Errno { return s.Rows(4) }, func() api.Errno { return s.Accept(0, 0) },
	} {
		at(0, 1)
		if change() != api.OK || s.Kept()[0] != 0 || at(0) != 0 || at(0) != 1 {
			t.Error(i, s.Kept())
		}
	}
	s.Parse()
	if s.Kept()[1] == 0 || s.Kept()[1] > 2 {
		t.Error(s.Kept())
	}
	s.Set("")
	if s.Kept()[1] == 0 {
		t.Error("choices stay")
	}
	s.Resize(1)
	if at(0, 0) != 1 || s.Kept() != [2]int{1, 1} {
		t.Error(s.Kept())
	}
	s.Resize(0)
	if at(0, 0) != 0 || s.Kept() != [2]int{} {
		t.Error(s.Kept())
	}
	if !utf.Caret(s.Text(), 0) {
		t.Error("text")
	}
}

func BenchmarkTyping(b *testing.B) {
	for b.Loop() {
		s := New(10)
		s.Load(grammar)
		s.Set(strings.Repeat("if (x + 1) y = 2;\n", 100))
		for i := range 50 {
			s.Edit(edit.Edit{At: 1800 + i, Put: "q"})
			s.Complete(1801 + i)
		}
	}
}
