package mini

import (
	"strconv"

	"souffleur/dfa"
)

// parter parts states into classes, up to where those of a class do the same.
type parter struct {
	d       dfa.Dfa
	dead    []bool
	ahead   [][]int
	class   []int
	members [][]int
	doubt   []bool // states that move to one that came to be of another class
	todo    []int  // those in doubt
}

// alike tells of each state the least one of its class.
func alike(d dfa.Dfa) []int {
	n := d.Long()
	p := &parter{d: d, dead: deadStates(d), ahead: ahead(d), class: make([]int, n), members: [][]int{nil}, doubt: make([]bool, n)}
	all := make([]int, n)
	for i := range all {
		all[i] = i
	}
	// Dead states are a class of their own, that is never parted: so it never matters whether a move goes there, or is none.
	p.part(0, nil, all, func(s int) string {
		if p.dead[s] {
			return "dead"
		}
		return d.Ends(s).Key()
	})
	p.question(all)
	for len(p.todo) > 0 {
		s := p.todo[len(p.todo)-1]
		p.todo = p.todo[:len(p.todo)-1]
		if p.doubt[s] {
			p.look(p.class[s])
		}
	}
	return p.least()
}

// least tells of each state the first one of its class.
func (p *parter) least() []int {
	first := make([]int, len(p.members))
	out := make([]int, len(p.class))
	for i := len(p.class) - 1; i >= 0; i-- {
		first[p.class[i]] = i
	}
	for i, c := range p.class {
		out[i] = first[c]
	}
	return out
}

// question puts states in doubt.
func (p *parter) question(l []int) {
	for _, s := range l {
		if !p.dead[s] && !p.doubt[s] {
			p.doubt[s] = true
			p.todo = append(p.todo, s)
		}
	}
}

// look parts a class anew; of its states those that are not in doubt all do the same.
func (p *parter) look(c int) {
	var sure, doubtful []int
	for _, s := range p.members[c] {
		if p.doubt[s] {
			doubtful = append(doubtful, s)
			p.doubt[s] = false
		} else {
			sure = append(sure, s)
		}
	}
	p.part(c, sure, doubtful, p.does)
}

// does tells what a state does, as a text.
func (p *parter) does(s int) string {
	var text []byte
	for _, m := range joined(p.d.Moves[s], p.dead, p.class) {
		for _, n := range []int{int(m.Lo), int(m.Hi), m.To} {
			text = append(strconv.AppendInt(text, int64(n), 36), ' ')
		}
	}
	return string(text)
}

// part parts a class by what is told of its states: of those that are sure, by one of them. The greatest part stays the class that it is, so that few states come to be in doubt.
func (p *parter) part(c int, sure, doubtful []int, tell func(int) string) {
	numbers := map[string]int{}
	var parts [][]int
	if len(sure) > 0 {
		numbers[tell(sure[0])] = 0
		parts = append(parts, sure)
	}
	for _, s := range doubtful {
		key := tell(s)
		n, ok := numbers[key]
		if !ok {
			n = len(parts)
			numbers[key] = n
			parts = append(parts, nil)
		}
		parts[n] = append(parts[n], s)
	}
	greatest := 0
	for n, l := range parts {
		if len(l) > len(parts[greatest]) {
			greatest = n
		}
	}
	p.members[c] = parts[greatest]
	for n, l := range parts {
		if n != greatest {
			p.rename(l)
		}
	}
}

// rename makes a class of some states.
func (p *parter) rename(l []int) {
	for _, s := range l {
		p.class[s] = len(p.members)
	}
	p.members = append(p.members, l)
	for _, s := range l {
		p.question(p.ahead[s])
	}
}
