package tidy

import "paddock/api"

// rule is one by which a program is made smaller: whether it holds of a step, and what it does then.
type rule struct {
	holds func(d *draft, i int) bool
	does  func(d *draft, i int)
}

// rules are all of them; the ones ahead go first.
func rules() []rule {
	return []rule{
		{isIdle, (*draft).takeOut},
		{isEmptyBlock, (*draft).takeOut},
		{isJumpToNext, (*draft).takeOut},
		{isBareBlock, (*draft).takeOut},
		{isBlockOfOne, (*draft).unwrap},
		{isDoneTwice, (*draft).takeTwin},
	}
}

// isIdle: it is never done, nor makes a file empty ahead of the run.
func isIdle(d *draft, i int) bool {
	x := d.parts[i]
	return !x.live && !keepsFile(&x.Command) && x.Command.Name != '{'
}

func isEmptyBlock(d *draft, i int) bool { return d.leadsToNext(i, '{') }

func isJumpToNext(d *draft, i int) bool { return d.leadsToNext(i, 'b') }

func isBareBlock(d *draft, i int) bool {
	c := &d.parts[i].Command
	return c.Name == '{' && isBare(c)
}

// isBlockOfOne: its only step can have the block's addresses itself.
func isBlockOfOne(d *draft, i int) bool {
	x := d.parts[i]
	if x.Command.Name != '{' || x.To != i+2 {
		return false
	}
	inner := &d.parts[i+1].Command
	return isBare(inner) && inner.Name != '{' && d.jumped[i+1] == 0 && (x.Command.Second.Kind == api.AddrNone || takesRange(inner))
}

// isDoneTwice: the next step does the same once more, or undoes it, and nothing leads between.
func isDoneTwice(d *draft, i int) bool {
	if i+1 >= len(d.parts) {
		return false
	}
	c, next := &d.parts[i].Command, &d.parts[i+1].Command
	switch c.Name {
	case 'g', 'h', 'z', 'x':
		return next.Name == c.Name && isBare(c) && isBare(next) && d.going[i+1] == 0
	}
	return false
}

// leadsToNext tells whether a step of this letter goes to the next one, selected or not, and nobody can tell whether it was. An expression that it looks for can be told: it is the last one then.
func (d *draft) leadsToNext(i int, name byte) bool {
	x := d.parts[i]
	return x.Command.Name == name && x.To == i+1 && !looks(&x.Command)
}

// unwrap takes a block out, whose only step has its addresses from then on; that is looked at just when the block was.
func (d *draft) unwrap(i int) {
	block, inner := d.parts[i], d.parts[i+1]
	inner.Command.First, inner.Command.Second, inner.Command.Not = block.Command.First, block.Command.Second, block.Command.Not
	inner.live = block.live
	d.takeOut(i)
}

// takeTwin takes out the second one of two steps that are alike; two swaps are none.
func (d *draft) takeTwin(i int) {
	swaps := d.parts[i].Command.Name == 'x'
	d.takeOut(i + 1)
	if swaps {
		d.takeOut(i)
	}
}

// isBare tells whether a command is done whenever it is looked at.
func isBare(c *api.Command) bool { return c.First.Kind == api.AddrNone && !c.Not }

// looks tells whether a command looks for an expression to be selected.
func looks(c *api.Command) bool {
	return c.First.Kind == api.AddrRegex || c.Second.Kind == api.AddrRegex
}

// keepsFile tells whether a command has a file come to be, done or not.
func keepsFile(c *api.Command) bool {
	return c.Name == 'w' || c.Name == 'W' || c.Name == 's' && c.Subst.File != ""
}

// takesRange tells whether a command does of a range in a block what it does of that range by itself: c writes at a range's end alone, q and Q have none.
func takesRange(c *api.Command) bool { return c.Name != 'c' && c.Name != 'q' && c.Name != 'Q' }
