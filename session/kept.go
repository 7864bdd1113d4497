package session

import (
	"slices"
	"strconv"

	"souffleur/cache"
	"souffleur/complete"
)

// answers are those that were told, by their carets; the cache tells which of them are kept.
type answers struct {
	*cache.Cache
	told map[int]complete.Answer
}

// choices are those of parses.
type choices struct{ *cache.Cache }

// kept is all that was found.
type kept struct {
	answers
	choices
}

func newKept(room int) *kept {
	return &kept{
		answers: answers{Cache: cache.New(room), told: map[int]complete.Answer{}},
		choices: choices{Cache: cache.New(room)},
	}
}

func key(caret int) string { return strconv.Itoa(caret) }

// answer tells the answer that is kept by a caret.
func (a answers) answer(caret int) (complete.Answer, bool) {
	if _, ok := a.Get(key(caret)); !ok {
		return complete.Answer{}, false
	}
	return copied(a.told[caret]), true
}

// keep keeps an answer by a caret.
func (a answers) keep(caret int, x complete.Answer) {
	a.Put(key(caret), caret)
	a.told[caret] = copied(x)
	a.tidy()
}

// tidy lets go what the cache does not keep any more.
func (a answers) tidy() {
	if len(a.told) == a.Long() {
		return
	}
	stay := map[int]complete.Answer{}
	for _, k := range a.Keys() {
		if caret, err := strconv.Atoi(k); err == nil {
			stay[caret] = a.told[caret]
		}
	}
	clear(a.told)
	for caret, x := range stay {
		a.told[caret] = x
	}
}

// forget lets all answers go.
func (a answers) forget() {
	a.Cache.Clear()
	clear(a.told)
}

// copied tells an answer in new memory.
func copied(a complete.Answer) complete.Answer {
	c := complete.Answer{
		Begun:   a.Begun,
		From:    a.From,
		Dropped: slices.Clone(a.Dropped),
		Wrong:   slices.Clone(a.Wrong),
		Entries: slices.Clone(a.Entries),
		More:    slices.Clone(a.More),
	}
	for _, rows := range a.Routes {
		var l [][]int
		for _, row := range rows {
			l = append(l, slices.Clone(row))
		}
		c.Routes = append(c.Routes, l)
	}
	return c
}
