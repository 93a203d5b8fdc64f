package posix

import "slices"

// asked is a question for where the rounds of a part lead from a place.
type asked struct {
	sweep
	part, at int
}

// roundsFrom are the places to which the rounds of a part lead from one: noted, as rounds within rounds are asked for again and again.
func (t *trial) roundsFrom(w sweep, p *part, at int) []int {
	q := asked{w, p.number, at}
	l, ok := t.led[q]
	if !ok {
		l = t.freeRounds(w, p, t.dueRounds(w, p, []int{at}))
		t.led[q] = l
	}
	return l
}

// dueRounds are the places to which the rounds lead that must be.
func (t *trial) dueRounds(w sweep, p *part, from []int) []int {
	for range p.least {
		to := t.reach(w, p.kids[0], from)
		if slices.Equal(to, from) { // so it would go on
			break
		}
		from = to
	}
	return from
}

// freeRounds are the places to which the other rounds lead, or none of them: each time from those alone that are new, as the others lead to nothing new.
func (t *trial) freeRounds(w sweep, p *part, from []int) []int {
	met := map[int]struct{}{}
	var out []int
	for n := p.least; ; n++ {
		var fresh []int
		for _, at := range from {
			if _, again := met[at]; !again {
				met[at] = struct{}{}
				fresh = append(fresh, at)
			}
		}
		out = append(out, fresh...)
		if len(fresh) == 0 || n == p.most {
			break
		}
		from = t.reach(w, p.kids[0], fresh)
	}
	slices.Sort(out)
	return out
}
