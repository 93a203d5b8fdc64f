package posix_test

import (
	"slices"

	"paddock/api"
)

// The words of the chapter, read off one by one: all ways of a node, and which of two is the better one.

// way is one of a node: where it ends, what is kept behind it, and the ways of its kids or rounds; of a NodeAlt the number of the kid.
type way struct {
	to    int
	kept  []api.Span
	which int
	kids  []way
}

var none = api.Span{From: -1, To: -1}

func nothing(n api.Node) []api.Span {
	return slices.Repeat([]api.Span{none}, 1+len(groupsOf(n)))
}

// letter is a byte as it is compared.
func letter(c byte, fold bool) byte {
	if fold && c >= 'A' && c <= 'Z' {
		return c + 32
	}
	return c
}

func has(s api.Set, c byte) bool { return s[c/64]>>(c%64)&1 == 1 }

func hasFolded(s api.Set, c byte) bool {
	other := c
	switch {
	case c >= 'a' && c <= 'z':
		other = c - 32
	case c >= 'A' && c <= 'Z':
		other = c + 32
	}
	return has(s, c) || has(s, other)
}

// meaning is a text over which ways are told, and how many ways were: it gives up beyond a number.
type meaning struct {
	s     string
	fold  bool
	count int
}

const tooManyWays = 200000

// ways are all of a node from a place on, with what is kept ahead.
func (m *meaning) ways(n api.Node, i int, kept []api.Span) []way {
	var out []way
	take := func(ok bool, to int) {
		if ok {
			out = append(out, way{to: to, kept: kept})
		}
	}
	switch n.Kind {
	case api.NodeEmpty:
		take(true, i)
	case api.NodeSet:
		take(i < len(m.s) && (has(n.Set, m.s[i]) || m.fold && hasFolded(n.Set, m.s[i])), i+1)
	case api.NodeBegin:
		take(i == 0, i)
	case api.NodeEnd:
		take(i == len(m.s), i)
	case api.NodeBack:
		to := i + kept[n.Group].To - kept[n.Group].From
		take(kept[n.Group] != none && to <= len(m.s) && m.alike(kept[n.Group], i), to)
	case api.NodeAlt:
		for which, k := range n.Kids {
			for _, w := range m.ways(k, i, kept) {
				out = append(out, way{to: w.to, kept: w.kept, which: which, kids: []way{w}})
			}
		}
	case api.NodeGroup:
		for _, w := range m.ways(n.Kids[0], i, kept) {
			behind := slices.Clone(w.kept)
			behind[n.Group] = api.Span{From: i, To: w.to}
			out = append(out, way{to: w.to, kept: behind, kids: []way{w}})
		}
	case api.NodeCat:
		out = m.cat(n, way{to: i, kept: kept})
	case api.NodeRepeat:
		out = m.rounds(n, way{to: i, kept: kept})
	}
	m.count += len(out)
	return out
}

func (m *meaning) alike(kept api.Span, i int) bool {
	for k := range kept.To - kept.From {
		if letter(m.s[kept.From+k], m.fold) != letter(m.s[i+k], m.fold) {
			return false
		}
	}
	return true
}

func (m *meaning) cat(n api.Node, sofar way) []way {
	if len(sofar.kids) == len(n.Kids) {
		return []way{sofar}
	}
	var out []way
	for _, w := range m.ways(n.Kids[len(sofar.kids)], sofar.to, sofar.kept) {
		if m.count < tooManyWays {
			out = append(out, m.cat(n, sofar.with(w))...)
		}
	}
	return out
}

func (w way) with(kid way) way {
	return way{to: kid.to, kept: kid.kept, kids: append(slices.Clip(w.kids), kid)}
}

func (m *meaning) rounds(n api.Node, sofar way) []way {
	done := len(sofar.kids)
	var out []way
	if done >= n.Min {
		out = append(out, sofar)
	}
	if done == n.Max {
		return out
	}
	ahead := slices.Clone(sofar.kept)
	for _, g := range groupsOf(n.Kids[0]) {
		ahead[g] = none
	}
	for _, w := range m.ways(n.Kids[0], sofar.to, ahead) {
		if (done < n.Min || w.to > sofar.to) && m.count < tooManyWays {
			out = append(out, m.rounds(n, sofar.with(w))...)
		}
	}
	return out
}

// better is below 0, if the first one of two ways is the better one; 0, if they are one.
func better(n api.Node, a, b way) int {
	if n.Kind == api.NodeAlt && a.which != b.which {
		return a.which - b.which
	}
	for i := range min(len(a.kids), len(b.kids)) {
		if a.kids[i].to != b.kids[i].to {
			return b.kids[i].to - a.kids[i].to
		}
		kid := n.Kids[0]
		switch n.Kind {
		case api.NodeCat:
			kid = n.Kids[i]
		case api.NodeAlt:
			kid = n.Kids[a.which]
		}
		if c := better(kid, a.kids[i], b.kids[i]); c != 0 {
			return c
		}
	}
	if len(a.kids) != len(b.kids) {
		panic("one way goes on where another one ends")
	}
	return 0
}

// meant is what Match answers, by the words; false: there are too many ways to tell.
func meant(n api.Node, s string, from int, fold bool) ([]api.Span, bool) {
	m := &meaning{s: s, fold: fold}
	for i := from; i <= len(s); i++ {
		all := m.ways(n, i, nothing(n))
		if m.count >= tooManyWays {
			return nil, false
		}
		if len(all) == 0 {
			continue
		}
		best := all[0]
		for _, w := range all[1:] {
			if w.to > best.to || w.to == best.to && better(n, w, best) < 0 {
				best = w
			}
		}
		best.kept[0] = api.Span{From: i, To: best.to}
		return best.kept, true
	}
	return nil, true
}

// meantEnds are the places to which a node matches from one, by the words.
func meantEnds(n api.Node, s string, from int, fold bool) (map[int]bool, bool) {
	m := &meaning{s: s, fold: fold}
	out := map[int]bool{}
	for _, w := range m.ways(n, from, nothing(n)) {
		out[w.to] = true
	}
	return out, m.count < tooManyWays
}
