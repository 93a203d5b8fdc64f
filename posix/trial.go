package posix

import (
	"slices"

	"paddock/api"
)

// trial tries an expression's ways over a text.
type trial struct {
	text   string
	root   *part
	groups int
	swept  bool
	starts []int
	seen   [][2]int // of each part, what marked its sides last
	mark   int
	led    map[asked][]int
	byKind [api.NodeCount]func(*trial, *part, spot, func(end))
	known  known
	recalls
}

// newTrial lays out an expression over a text. If case does not matter, the text is all in lower case, and each set has both cases: so nobody behind it has to ask.
func newTrial(n *api.Node, s string, fold bool) *trial {
	b := newBuilder(n, fold)
	t := &trial{text: s, root: b.build(n), byKind: kinds(), led: map[asked][]int{}}
	t.groups, t.seen, t.named = b.groups, make([][2]int, b.parts), b.named
	if fold {
		t.text = lower(s)
	}
	t.forget()
	return t
}

func lower(s string) string {
	out := []byte(s)
	for i, c := range out {
		if c >= 'A' && c <= 'Z' {
			out[i] = c - 'A' + 'a'
		}
	}
	return string(out)
}

// found is a match.
type found struct {
	api.Span
	kept *trail
}

// match is the first one from a place on.
func (t *trial) match(from int) (found, bool) {
	for at, ok := from, true; ok; at, ok = t.start(at + 1) {
		if e, ok := t.longest(at); ok {
			return found{api.Span{From: at, To: e.at}, e.kept}, true
		}
	}
	return found{}, false
}

// start is the first place from one on at which a match may begin. All of them are found together, when one is asked for the first time; the places that are asked for rise.
func (t *trial) start(from int) (int, bool) {
	if !t.swept {
		t.swept, t.starts = true, t.reach(sweep{true, from}, t.root, all(from, len(t.text)))
	}
	i, _ := slices.BinarySearch(t.starts, from)
	if i == len(t.starts) {
		return 0, false
	}
	return t.starts[i], true
}

// all are the places from one to another.
func all(from, to int) []int {
	var out []int
	for at := from; at <= to; at++ {
		out = append(out, at)
	}
	return out
}

// longest is the furthest end of the whole expression from a place, by the best way.
func (t *trial) longest(at int) (end, bool) {
	if !t.root.plain {
		l := t.wholeEnds(at)
		if len(l) == 0 {
			return end{}, false
		}
		return l[0], true
	}
	l := t.reach(sweep{false, len(t.text)}, t.root, []int{at})
	if len(l) == 0 {
		return end{}, false
	}
	return plainEnd(t.root, spot{at: at}, l[len(l)-1]), true
}

// leads tells whether the whole expression matches from one place to another.
func (t *trial) leads(s api.Span) bool {
	if t.root.plain {
		return t.canLead(t.root, s)
	}
	return slices.ContainsFunc(t.wholeEnds(s.From), func(e end) bool { return e.at == s.To })
}

// spans are those of a match and of each group.
func (t *trial) spans(f found) []api.Span {
	out := []api.Span{f.Span}
	for range t.groups {
		out = append(out, none())
	}
	t.fill(f.kept, out)
	return out
}
