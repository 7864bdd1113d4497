package complete

import (
	"souffleur/api"
	"souffleur/atn"
	"souffleur/check"
	"souffleur/closure"
	"souffleur/dfa"
	"souffleur/follow"
	"souffleur/gram"
	"souffleur/left"
	"souffleur/live"
	"souffleur/mini"
	"souffleur/nfa"
	"souffleur/vocab"
)

// Fault is why a grammar is not accepted, and where in its text.
type Fault struct {
	Code api.Errno
	At   int
}

// Lang is a grammar that was accepted, with all that is made of it.
type Lang struct {
	g      gram.Grammar
	v      vocab.Vocab
	d      dfa.Dfa
	live   live.Live
	follow follow.Follow
	walk   *closure.Walk
}

// Load accepts a grammar, or tells why not, and where.
func Load(s string) (*Lang, Fault) {
	g, stop := gram.Read(s)
	if stop.Code != api.OK {
		return nil, Fault{Code: stop.Code, At: stop.At}
	}
	if f := check.First(g); f.Code != api.OK {
		return nil, Fault{Code: f.Code, At: place(g, f)}
	}
	l := &Lang{g: g, v: vocab.Of(g)}
	n, code := nfa.Build(g, l.v)
	if code != api.OK {
		return nil, Fault{Code: code}
	}
	d, code := dfa.Of(n)
	if code != api.OK {
		return nil, Fault{Code: code}
	}
	l.d = mini.Of(d)
	a, code := atn.Of(g, l.v)
	if code != api.OK {
		return nil, Fault{Code: code}
	}
	a, code, rule := left.Ready(a)
	if code != api.OK {
		return nil, Fault{Code: code, At: lowerPlace(g, rule)}
	}
	if l.walk, code = closure.New(a); code != api.OK {
		return nil, Fault{Code: code}
	}
	l.live, l.follow = live.Of(l.d), follow.Of(a)
	return l, Fault{}
}

// place tells where in the text a fault is.
func place(g gram.Grammar, f check.Fault) int {
	if f.Node >= 0 {
		switch g.Nodes[f.Node].Kind {
		case gram.Name, gram.Lit, gram.Class:
			return g.Nodes[f.Node].At
		}
	}
	return g.Rules[f.Rule].At
}

// lowerPlace tells where a lower rule is, by its number among the lower ones.
func lowerPlace(g gram.Grammar, rule int) int {
	for _, r := range g.Rules {
		if r.Upper {
			continue
		}
		if rule == 0 {
			return r.At
		}
		rule--
	}
	return 0
}

// plain tells whether no call made a Lang.
func (l *Lang) plain() bool { return l == nil || l.walk == nil }

// Grammar tells what was read.
func (l *Lang) Grammar() gram.Grammar {
	if l.plain() {
		return gram.Grammar{}
	}
	return l.g.Clone()
}

// Vocab tells the grammar's types.
func (l *Lang) Vocab() vocab.Vocab {
	if l.plain() {
		return vocab.Vocab{}
	}
	return l.v
}

// Dfa tells the automaton of its words.
func (l *Lang) Dfa() dfa.Dfa {
	if l.plain() {
		return dfa.Dfa{}
	}
	return l.d
}

// Live tells which types may still end.
func (l *Lang) Live() live.Live {
	if l.plain() {
		return live.Live{}
	}
	return l.live
}

// Follow tells which types may come first, rule by rule.
func (l *Lang) Follow() follow.Follow {
	if l.plain() {
		return follow.Follow{}
	}
	return l.follow
}

// Walk tells what sentences are gone by.
func (l *Lang) Walk() *closure.Walk {
	if l.plain() {
		return nil
	}
	return l.walk
}
