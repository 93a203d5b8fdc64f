package subst

import (
	"math"

	"paddock/api"
	"paddock/posix"
	"paddock/sets"
)

// first is the number of the first match that is replaced; last that of the last one that is looked for.
func first(c api.Subst) int { return max(c.Number, 1) }

func last(c api.Subst) int {
	if c.Global {
		return math.MaxInt
	}
	return first(c)
}

// search is a right expression and a text in which it is looked for. Where letters' case does not matter both are folded once, as else each look would fold all of the text again.
type search struct {
	root api.Node
	text string
}

func newSearch(n api.Node, s string, fold bool) search {
	if !fold {
		return search{n, s}
	}
	return search{folded(n), cases()[lower].turn(s)}
}

// folded is an expression whose sets have both cases of their letters.
func folded(n api.Node) api.Node {
	var kids []api.Node
	for _, k := range n.Kids {
		kids = append(kids, folded(k))
	}
	n.Set, n.Kids = sets.Fold(n.Set), kids
	return n
}

// few is how many matches are looked for one by one: so nothing is tried behind the last one of them. More are looked for at one time, as a look by itself may go through all of the text.
const few = 4

// taken are the matches that are taken, up to one of a number.
func (q search) taken(most int) []api.Span {
	if most > few {
		l, _ := posix.All(q.root, q.text, false)
		return l[:min(most, len(l))]
	}
	var out []api.Span
	for at := 0; len(out) < most && at <= len(q.text); {
		m, ok, _ := posix.Match(q.root, q.text, at, false)
		if !ok {
			break
		}
		if !isEmpty(m[0]) || len(out) == 0 || out[len(out)-1].To != m[0].From {
			out = append(out, m[0])
		}
		at = behind(m[0])
	}
	return out
}

func isEmpty(m api.Span) bool { return m.From == m.To }

// behind is the next place from which a match is looked for, behind one.
func behind(m api.Span) int {
	if isEmpty(m) {
		return m.To + 1
	}
	return m.To
}

// places are those from which matches are looked for, of which some are taken, up to one of a number.
func (q search) places(taken []api.Span, most int) []int {
	out := []int{0}
	for i, m := range taken {
		at := behind(m)
		if i+1 == most || at > len(q.text) {
			break
		}
		out = append(out, at)
		if at < len(q.text) && q.passes(at, taken[i+1:]) {
			out = append(out, at+1)
		}
	}
	return out
}

// passes tells whether the match that is found from a place, where the last one ended, is empty, and so not taken; these are taken behind it.
func (q search) passes(at int, next []api.Span) bool {
	if len(next) > 0 && next[0].From == at {
		return false
	}
	ok, _ := posix.Whole(q.root, q.text, api.Span{From: at, To: at}, false)
	return ok
}

// kept are, of each of some matches, its span and those of so many groups, one behind the other. From where a match begins the same one is found as from the place from which it was looked for.
func (q search) kept(l []api.Span, groups int) []api.Span {
	if groups == 0 {
		return l
	}
	var out []api.Span
	for _, x := range l {
		m, _, _ := posix.Match(q.root, q.text, x.From, false)
		out = append(out, m[:1+groups]...)
	}
	return out
}
