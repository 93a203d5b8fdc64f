package posix

import (
	"slices"

	"paddock/api"
	"paddock/sets"
)

// sweep is a direction in which a text is gone through, and the place at which it ends.
type sweep struct {
	backward bool
	bound    int
}

// side is one of a part: that at which a sweep comes to it, or the far one.
type side struct {
	part *part
	far  bool
}

// run is a sweep through a part, all ways at one time: at each place it comes to each side once.
type run struct {
	*trial
	sweep
	top        *part
	at, marked int
	left, next []side         // what is to be gone through at this place, and at the next one
	later      map[int][]side // what is to be gone through further on
	out        []int
}

// reach are the places at which ways of a part end that begin at one of some places; of a sweep backward, at which they begin that end there. Both lists rise. Of a part that is not plain there may be too many.
func (t *trial) reach(w sweep, p *part, from []int) []int {
	r := &run{trial: t, sweep: w, top: p}
	if w.backward {
		for _, at := range slices.Backward(from) {
			r.begin(at)
		}
	} else {
		for _, at := range from {
			r.begin(at)
		}
	}
	r.goUpTo(w.bound + r.step())
	if w.backward {
		slices.Reverse(r.out)
	}
	return r.out
}

func (r *run) step() int {
	if r.backward {
		return -1
	}
	return 1
}

// begin goes on to a place, and begins there, too.
func (r *run) begin(at int) {
	r.goUpTo(at)
	r.at = at
	r.next = append(r.next, side{part: r.top})
}

// goUpTo goes through all ahead of a place, as long as there is something.
func (r *run) goUpTo(to int) {
	for ; r.at != to && len(r.next)+len(r.later) > 0; r.at += r.step() {
		r.mark++
		r.marked = r.mark
		r.left, r.next = append(r.next, r.later[r.at]...), r.left
		delete(r.later, r.at)
		for len(r.left) > 0 {
			last := len(r.left) - 1
			s := r.left[last]
			r.left = r.left[:last]
			r.goThrough(s)
		}
	}
}

func (r *run) goThrough(s side) {
	seen := &r.seen[s.part.number]
	switch {
	case !s.far && seen[0] != r.marked:
		seen[0] = r.marked
		r.enter(s.part)
	case s.far && seen[1] != r.marked:
		seen[1] = r.marked
		r.leave(s.part)
	}
}

func (r *run) enter(p *part) {
	if (r.bound-r.at)*r.step() < p.shortest {
		return
	}
	switch p.kind {
	case api.NodeEmpty:
		r.cross(p)
	case api.NodeSet:
		if sets.Has(p.set, r.nextByte()) {
			r.next = append(r.next, side{p, true})
		}
	case api.NodeBegin:
		if r.at == 0 {
			r.cross(p)
		}
	case api.NodeEnd:
		if r.at == len(r.text) {
			r.cross(p)
		}
	case api.NodeBack: // it may lead anywhere
		r.cross(p)
		r.next = append(r.next, side{part: p})
	default:
		r.enterKids(p)
	}
}

func (r *run) nextByte() byte {
	if r.backward {
		return r.text[r.at-1]
	}
	return r.text[r.at]
}

func (r *run) enterKids(p *part) {
	switch {
	case p.kind == api.NodeAlt:
		for _, k := range p.kids {
			r.left = append(r.left, side{part: k})
		}
	case p.kind == api.NodeRepeat:
		r.enterRounds(p)
	case r.backward:
		r.left = append(r.left, side{part: p.kids[len(p.kids)-1]})
	default:
		r.left = append(r.left, side{part: p.kids[0]})
	}
}

func (r *run) enterRounds(p *part) {
	if p.apart {
		r.enterApart(p)
		return
	}
	if p.least == 0 {
		r.cross(p)
	}
	if p.most != 0 {
		r.left = append(r.left, side{part: p.kids[0]})
	}
}

// enterApart goes through all rounds of a part by sweeps of their own, which come ahead of this one.
func (r *run) enterApart(p *part) {
	for _, to := range r.roundsFrom(r.sweep, p, r.at) {
		if to == r.at {
			r.cross(p)
			continue
		}
		if r.later == nil {
			r.later = map[int][]side{}
		}
		r.later[to] = append(r.later[to], side{p, true})
	}
}

// cross goes on to a part's far side.
func (r *run) cross(p *part) { r.left = append(r.left, side{p, true}) }

// leave goes on to what comes behind a part.
func (r *run) leave(p *part) {
	if p == r.top {
		r.out = append(r.out, r.at)
		return
	}
	switch p.parent.kind {
	case api.NodeCat:
		r.leaveOne(p)
	case api.NodeRepeat:
		r.leaveRound(p)
	default:
		r.cross(p.parent)
	}
}

// leaveOne leaves one of those that stand one behind another.
func (r *run) leaveOne(p *part) {
	next := p.index + r.step()
	if next < 0 || next == len(p.parent.kids) {
		r.cross(p.parent)
		return
	}
	r.left = append(r.left, side{part: p.parent.kids[next]})
}

// leaveRound leaves a round: backward they are counted from the last one on, which comes to the same.
func (r *run) leaveRound(p *part) {
	q := p.parent
	done := p.index + 1
	if done >= q.least {
		r.cross(q)
	}
	if done < len(q.kids) {
		r.left = append(r.left, side{part: q.kids[done]})
	} else if q.most == -1 {
		r.left = append(r.left, side{part: p})
	}
}
