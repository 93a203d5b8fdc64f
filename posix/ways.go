package posix

import (
	"cmp"
	"slices"

	"paddock/api"
)

// spot is where a way stands: a place of the text, and the number of a recall.
type spot struct{ at, recall int }

// end is where a way of a part ends, and what it keeps.
type end struct {
	spot
	kept *trail
}

// plainEnd is that of a plain part: what it keeps is found when it is asked for.
func plainEnd(p *part, from spot, to int) end {
	e := end{spot: spot{to, from.recall}}
	if p.hasGroups() {
		e.kept = &trail{part: p, span: api.Span{From: from.at, To: to}}
	}
	return e
}

// wholeEnds are the ends of the whole expression from a place, with nothing kept ahead.
func (t *trial) wholeEnds(at int) []end {
	if t.known.full() {
		t.forget()
	}
	return t.ends(t.root, spot{at: at})
}

// forget gives up what was found out: only between two beginnings, when no way is under trial.
func (t *trial) forget() {
	t.known = newKnown()
	t.recalls = newRecalls(t.named)
}

// kinds has for each kind of part that is not plain how its ways are tried: from a spot on, handing each end to what comes behind.
func kinds() [api.NodeCount]func(*trial, *part, spot, func(end)) {
	return [api.NodeCount]func(*trial, *part, spot, func(end)){
		api.NodeCat:    (*trial).tryCat,
		api.NodeAlt:    (*trial).tryAlt,
		api.NodeRepeat: (*trial).tryRepeat,
		api.NodeGroup:  (*trial).tryGroup,
		api.NodeBack:   (*trial).tryBack,
	}
}

// try hands each end of a part's ways from a spot to what comes behind: the further ones first, and of one place the better way first. Of ways to the same spot the best one stands for all, as whatever comes behind is the same.
func (t *trial) try(p *part, from spot, behind func(end)) {
	if p.plain {
		for _, to := range slices.Backward(t.reach(sweep{false, len(t.text)}, p, []int{from.at})) {
			behind(plainEnd(p, from, to))
		}
		return
	}
	for _, e := range t.ends(p, from) {
		behind(e)
	}
}

// ends are those of a part that is not plain, as try hands them over.
func (t *trial) ends(p *part, from spot) []end {
	if l, ok := t.known.ask(p, from); ok {
		return l
	}
	var l []end
	t.byKind[p.kind](t, p, from, func(e end) { l = append(l, e) })
	l = ranked(l)
	t.known.note(p, from, l)
	return l
}

// ranked puts ends in order, which come as their ways do, the better one first: the further ones first, each spot once.
func ranked(l []end) []end {
	slices.SortStableFunc(l, func(a, b end) int { return cmp.Compare(b.at, a.at) })
	met := map[spot]struct{}{}
	return slices.DeleteFunc(l, func(e end) bool {
		_, again := met[e.spot]
		met[e.spot] = struct{}{}
		return again
	})
}

func (t *trial) tryBack(p *part, from spot, behind func(end)) {
	kept := t.recalled(from.recall, p.group)
	if kept == none() {
		return
	}
	to := from.at + kept.To - kept.From
	if to <= len(t.text) && t.text[from.at:to] == t.text[kept.From:kept.To] {
		behind(end{spot: spot{to, from.recall}})
	}
}

func (t *trial) tryGroup(p *part, from spot, behind func(end)) {
	t.try(p.kids[0], from, func(e end) {
		s := api.Span{From: from.at, To: e.at}
		e.recall = t.with(e.recall, p.group, s)
		e.kept = &trail{part: p, span: s, inner: e.kept}
		behind(e)
	})
}

func (t *trial) tryAlt(p *part, from spot, behind func(end)) {
	for _, k := range p.kids {
		t.try(k, from, behind)
	}
}

func (t *trial) tryCat(p *part, from spot, behind func(end)) {
	c := newCourse(from)
	on := func(e end) {
		e.kept = joined(c.now.kept, e.kept)
		c.goOn(c.now.done+1, e)
	}
	for c.next() {
		if c.now.done == len(p.kids) {
			behind(c.now.end)
		} else {
			t.try(p.kids[c.now.done], c.now.spot, on)
		}
	}
}

// tryRepeat keeps what its last round keeps: the groups within have none again ahead of each.
func (t *trial) tryRepeat(p *part, from spot, behind func(end)) {
	c := newCourse(from)
	isFree := func() bool { return c.now.done >= p.least }
	on := func(e end) {
		if !isFree() || e.at > c.now.at {
			c.goOn(p.count(c.now.done+1), e)
		}
	}
	for c.next() {
		if isFree() {
			behind(c.now.end)
		}
		if c.now.done != p.most {
			t.try(p.kids[0], spot{c.now.at, t.without(c.now.recall, p.within)}, on)
		}
	}
}
