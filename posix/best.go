package posix

import (
	"slices"

	"paddock/api"
)

// best notes what the best way of a plain part keeps, from one place to another to which it leads.
func (t *trial) best(p *part, s api.Span, out []api.Span) {
	if !p.hasGroups() {
		return
	}
	switch p.kind {
	case api.NodeGroup:
		out[p.group] = s
		t.best(p.kids[0], s, out)
	case api.NodeAlt:
		i := slices.IndexFunc(p.kids, func(k *part) bool { return t.canLead(k, s) })
		t.best(p.kids[i], s, out)
	case api.NodeCat:
		t.bestOfCat(p, s, out)
	case api.NodeRepeat:
		t.bestOfRounds(p, s, out)
	}
}

// canLead tells whether a plain part leads from one place to another.
func (t *trial) canLead(p *part, s api.Span) bool {
	return contains(t.reach(sweep{false, s.To}, p, []int{s.From}), s.To)
}

func (t *trial) bestOfCat(p *part, s api.Span, out []api.Span) {
	wanted := make([][]int, len(p.kids)) // where each kid must end
	wanted[len(p.kids)-1] = []int{s.To}
	for i := len(p.kids) - 1; i > 0; i-- {
		wanted[i-1] = t.reach(sweep{true, s.From}, p.kids[i], wanted[i])
	}
	at := s.From
	for i, k := range p.kids {
		to := t.furthest(k, api.Span{From: at, To: s.To}, wanted[i])
		t.best(k, api.Span{From: at, To: to}, out)
		at = to
	}
}

// bestOfRounds goes through the rounds up to the last one: what that keeps is what is kept.
func (t *trial) bestOfRounds(p *part, s api.Span, out []api.Span) {
	wanted := t.boundaries(p, s)
	at, last := s.From, none()
	for n := 0; n < p.least || at < s.To; n++ {
		to := t.furthest(p.kids[0], api.Span{From: at, To: s.To}, wanted[p.count(n+1)])
		at, last = to, api.Span{From: at, To: to}
	}
	if last != none() {
		t.best(p.kids[0], last, out)
	}
}

// boundaries are, by the count of rounds that are done, the places from which the rest of them leads to the end.
func (t *trial) boundaries(p *part, s api.Span) [][]int {
	w := sweep{true, s.From}
	last := []int{s.To}
	if p.most == -1 {
		last = t.freeRounds(w, p, last)
	}
	out := make([][]int, max(p.least, p.most)+1)
	out[len(out)-1] = last
	for n := len(out) - 2; n >= 0; n-- {
		out[n] = t.reach(w, p.kids[0], out[n+1])
		if n >= p.least && !contains(out[n], s.To) {
			out[n] = append(out[n], s.To)
		}
	}
	return out
}

// furthest is the furthest place within a span to which a part leads from its beginning, and which is wanted: there is one; and where the end is not reached yet, one further on.
func (t *trial) furthest(p *part, s api.Span, wanted []int) int {
	for _, to := range slices.Backward(t.reach(sweep{false, s.To}, p, []int{s.From})) {
		if contains(wanted, to) {
			return to
		}
	}
	return s.To
}

func contains(places []int, at int) bool {
	_, ok := slices.BinarySearch(places, at)
	return ok
}
