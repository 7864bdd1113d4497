package script

import (
	"strconv"
	"strings"

	"souffleur/api"
	"souffleur/bits"
	"souffleur/complete"
	"souffleur/edit"
	"souffleur/offer"
	"souffleur/rank"
	"souffleur/session"
)

// Do does one act to a session, and tells what came of it, as a text.
func Do(s *session.Session, a Act) string {
	if !Right(a) {
		return refused(api.ErrScript)
	}
	switch a.Kind {
	case Load:
		f := s.Load(a.Text)
		if f.Code != api.OK {
			return "error " + strconv.Itoa(int(f.Code)) + " " + strconv.Itoa(f.At) + "\n"
		}
		return done(api.OK)
	case Set:
		return done(s.Set(a.Text))
	case Edit:
		return done(s.Edit(edit.Edit{At: a.Nums[0], Cut: a.Nums[1], Put: a.Text}))
	case Prefer:
		return done(s.Want(offer.Want{Rules: bits.Of(a.Nums...)}))
	case Less:
		return done(s.Want(offer.Want{Less: bits.Of(a.Nums...)}))
	case Rows:
		return done(s.Rows(a.Nums[0]))
	case Complete:
		return completed(s, a.Nums[0])
	case Parse:
		return parsed(s)
	case Accept:
		return done(s.Accept(a.Nums[0], a.Nums[1]))
	case Clear:
		s.Clear()
	case Room:
		s.Resize(a.Nums[0])
	}
	return done(api.OK)
}

func refused(code api.Errno) string { return "error " + strconv.Itoa(int(code)) + "\n" }

func done(code api.Errno) string {
	if code != api.OK {
		return refused(code)
	}
	return "ok\n"
}

func completed(s *session.Session, caret int) string {
	a, code := s.Complete(caret)
	if code != api.OK {
		return refused(code)
	}
	if len(a.Entries) == 0 {
		return "nothing\n"
	}
	var b strings.Builder
	for i := range a.Entries {
		b.WriteString(entry(a, i) + "\n")
	}
	return b.String()
}

// entry tells an entry of an answer, and the rows within which it is.
func entry(a complete.Answer, i int) string {
	words := []string{a.Entries[i].Name, strconv.Itoa(rank.Weight(a.Entries[i]))}
	for _, row := range a.Routes[i] {
		var rules []string
		for _, r := range row {
			rules = append(rules, strconv.Itoa(r))
		}
		words = append(words, strings.Join(rules, ">"))
	}
	if a.More[i] {
		words = append(words, "+")
	}
	return strings.Join(words, " ")
}

func parsed(s *session.Session) string {
	p, code := s.Parse()
	if code != api.OK {
		return refused(code)
	}
	a, types := s.Names()
	return p.Tree.Text(a, types) + " " + strconv.Itoa(len(p.Kept.Out)) + "\n"
}

// Play does all lines of a text.
func Play(s *session.Session, text string) string {
	var b strings.Builder
	for _, line := range strings.Split(text, "\n") {
		if line == "" || line[0] == '#' {
			continue
		}
		a, code := Read(line)
		if code != api.OK {
			b.WriteString(refused(code))
			continue
		}
		b.WriteString(Do(s, a))
	}
	return b.String()
}
