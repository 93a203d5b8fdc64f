package posix

import "paddock/api"

func none() api.Span { return api.Span{From: -1, To: -1} }

// trail is what a way keeps: nil, nothing; else what was kept ahead, what within, and a part with its span: a plain one, of which it is to be found, or a group. Ways have trails in common: none is ever changed.
type trail struct {
	part         *part
	span         api.Span
	ahead, inner *trail
}

// joined is what one way keeps and then another one.
func joined(first, then *trail) *trail {
	if first == nil {
		return then
	}
	if then == nil {
		return first
	}
	return &trail{ahead: first, inner: then}
}

// fill notes what a trail keeps.
func (t *trial) fill(kept *trail, out []api.Span) {
	if kept == nil {
		return
	}
	t.fill(kept.ahead, out)
	t.fill(kept.inner, out)
	if p := kept.part; p != nil && p.plain {
		t.best(p, kept.span, out)
	} else if p != nil {
		out[p.group] = kept.span
	}
}

// recall is what the groups have kept that back-references name.
type recall [maxBack + 1]api.Span

// recalls gives recalls numbers; 0 is that of the one with nothing kept. Groups that nobody names have none in all of them: what they keep makes no difference to what comes behind.
type recalls struct {
	named   [maxBack + 1]bool
	list    []recall
	numbers map[recall]int
}

func newRecalls(named [maxBack + 1]bool) recalls {
	r := recalls{named: named, numbers: map[recall]int{}}
	var nothing recall
	for i := range nothing {
		nothing[i] = none()
	}
	r.number(nothing)
	return r
}

func (r *recalls) number(x recall) int {
	n, ok := r.numbers[x]
	if !ok {
		n = len(r.list)
		r.list = append(r.list, x)
		r.numbers[x] = n
	}
	return n
}

func (r *recalls) isNamed(group int) bool { return group <= maxBack && r.named[group] }

func (r *recalls) recalled(number, group int) api.Span { return r.list[number][group] }

// with is the recall in which a group has kept a span.
func (r *recalls) with(number, group int, s api.Span) int {
	if !r.isNamed(group) {
		return number
	}
	x := r.list[number]
	x[group] = s
	return r.number(x)
}

// without is the recall in which the groups from one up to another have none.
func (r *recalls) without(number int, within [2]int) int {
	if number == 0 {
		return 0
	}
	x := r.list[number]
	for g := within[0]; g < within[1] && g <= maxBack; g++ {
		x[g] = none()
	}
	return r.number(x)
}

// maxKnown is how much is kept of what was found out, from one beginning to the next.
const maxKnown = 1 << 17

// question is what can be asked of a part: its ends from a spot.
type question struct {
	part int
	from spot
}

// known is what was found out of parts.
type known struct {
	answers map[question][]end
	size    int
}

func newKnown() known { return known{answers: map[question][]end{}} }

func (k *known) full() bool { return k.size > maxKnown }

func (k *known) ask(p *part, from spot) ([]end, bool) {
	l, ok := k.answers[question{p.number, from}]
	return l, ok
}

func (k *known) note(p *part, from spot, l []end) {
	k.answers[question{p.number, from}] = l
	k.size += 1 + len(l)
}
