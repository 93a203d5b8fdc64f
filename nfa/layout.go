package nfa

import "paddock/api"

// tooMany is a size beyond the limit: one that is greater still is told as this, so that none wraps round.
const tooMany = api.MaxProg + 1

// piece is a node of an expression with the size of its code, and the least and the greatest group within it (0: it has none).
type piece struct {
	*api.Node
	size            int
	least, greatest int
	kids            []*piece
}

func measure(n *api.Node) *piece {
	p := &piece{Node: n}
	if n.Kind == api.NodeGroup {
		p.least, p.greatest = n.Group, n.Group
	}
	for i := range n.Kids {
		k := measure(&n.Kids[i])
		p.kids = append(p.kids, k)
		if p.least == 0 {
			p.least = k.least
		}
		p.greatest = max(p.greatest, k.greatest)
	}
	p.size = min(p.sum(), tooMany)
	return p
}

// sum is the size of a code, of kids that are measured.
func (p *piece) sum() int {
	all := 0
	for _, k := range p.kids {
		all += k.size
	}
	switch p.Kind {
	case api.NodeSet, api.NodeBack, api.NodeBegin, api.NodeEnd:
		return 1
	case api.NodeGroup:
		return all + 2
	case api.NodeAlt:
		return all + 2*(len(p.kids)-1)
	case api.NodeRepeat:
		return p.rounds(all)
	}
	return all
}

// rounds is the size of a repeat's code, of a kid of a size: a round has an InstClear ahead, if there are groups; a free one an InstSplit, an InstMark and an InstMoved besides.
func (p *piece) rounds(kid int) int {
	if p.greatest > 0 {
		kid++
	}
	if p.Max == -1 {
		return p.Min*kid + kid + 4
	}
	return p.Min*kid + (p.Max-p.Min)*(kid+3)
}

// layout lays out the code of an expression, from the first instruction on.
type layout struct {
	byKind [api.NodeCount]func(*layout, *piece)
	code   []api.Inst
	free   int // the free rounds around
}

func layouts() [api.NodeCount]func(*layout, *piece) {
	return [api.NodeCount]func(*layout, *piece){
		api.NodeEmpty:  func(*layout, *piece) {},
		api.NodeSet:    func(l *layout, p *piece) { l.put(api.Inst{Kind: api.InstSet, Set: p.Set}) },
		api.NodeCat:    (*layout).cat,
		api.NodeAlt:    (*layout).alt,
		api.NodeRepeat: (*layout).repeat,
		api.NodeGroup:  (*layout).group,
		api.NodeBack:   func(l *layout, p *piece) { l.put(api.Inst{Kind: api.InstBack, Group: p.Group}) },
		api.NodeBegin:  func(l *layout, _ *piece) { l.put(api.Inst{Kind: api.InstBegin}) },
		api.NodeEnd:    func(l *layout, _ *piece) { l.put(api.Inst{Kind: api.InstEnd}) },
	}
}

func (l *layout) lay(p *piece) { l.byKind[p.Kind](l, p) }

func (l *layout) put(x api.Inst) { l.code = append(l.code, x) }

// here is the number of the next instruction.
func (l *layout) here() int { return len(l.code) }

func (l *layout) cat(p *piece) {
	for _, k := range p.kids {
		l.lay(k)
	}
}

func (l *layout) group(p *piece) {
	l.put(api.Inst{Kind: api.InstOpen, Group: p.Group})
	l.lay(p.kids[0])
	l.put(api.Inst{Kind: api.InstClose, Group: p.Group})
}

func (l *layout) alt(p *piece) {
	behind := l.here() + p.size
	last := len(p.kids) - 1
	for _, k := range p.kids[:last] {
		l.put(api.Inst{Kind: api.InstSplit, To: l.here() + k.size + 2})
		l.lay(k)
		l.put(api.Inst{Kind: api.InstJump, To: behind})
	}
	l.lay(p.kids[last])
}

func (l *layout) repeat(p *piece) {
	behind := l.here() + p.size
	var first laid
	for range p.Min {
		l.round(p, &first)
	}
	if p.Max == -1 {
		split := l.here()
		l.freeRound(p, &first, behind)
		l.put(api.Inst{Kind: api.InstJump, To: split})
		return
	}
	for range p.Max - p.Min {
		l.freeRound(p, &first, behind)
	}
}

// freeRound is a round that may be left out, with the InstSplit that leads past all of them.
func (l *layout) freeRound(p *piece, first *laid, behind int) {
	slot := l.free
	l.put(api.Inst{Kind: api.InstSplit, To: behind})
	l.put(api.Inst{Kind: api.InstMark, Slot: slot})
	l.free++
	l.round(p, first)
	l.free--
	l.put(api.Inst{Kind: api.InstMoved, Slot: slot})
}

// laid is where the first round of a repeat stands, and how many free rounds are around it.
type laid struct {
	done           bool
	from, to, free int
}

// round lays out a kid's code the first time, and copies it from then on: rounds within rounds of a kid without any code are more than could ever be gone through.
func (l *layout) round(p *piece, first *laid) {
	if first.done {
		l.again(*first)
		return
	}
	*first = laid{done: true, from: l.here(), free: l.free}
	if p.greatest > 0 {
		l.put(api.Inst{Kind: api.InstClear, Group: p.least, Last: p.greatest})
	}
	l.lay(p.kids[0])
	first.to = l.here()
}

// again copies a round, with its places and slots as they are where the copy stands.
func (l *layout) again(first laid) {
	further, deeper := l.here()-first.from, l.free-first.free
	for _, x := range l.code[first.from:first.to] {
		u := fields[x.Kind]
		if u.to {
			x.To += further
		}
		if u.slot {
			x.Slot += deeper
		}
		l.put(x)
	}
}

// slots is how many slots a code has.
func slots(code []api.Inst) int {
	n := 0
	for i := range code {
		if code[i].Kind == api.InstMark {
			n = max(n, code[i].Slot+1)
		}
	}
	return n
}
