package cycles

import "paddock/api"

// stretch is where a range stands: whether it is open, and to which line, if it is to one.
type stretch struct {
	open bool
	to   int
}

// atFirst is where the range of a command stands at the beginning; one from the line 0 on is open then.
func atFirst(c *api.Command) stretch {
	return stretch{open: c.First.Kind == api.AddrLine && c.First.N == 0}
}

// addressed tells whether the addresses of the step that is looked at select the line.
func (r *Run) addressed(c *api.Command) bool {
	if c.First.Kind == api.AddrNone {
		return true
	}
	if c.Second.Kind == api.AddrNone {
		return r.meets(&c.First)
	}
	here := &r.ranges[r.next]
	if here.open {
		return r.within(&c.Second, here)
	}
	if !r.meets(&c.First) {
		return false
	}
	*here = r.opened(&c.Second)
	return true
}

// meets tells whether a line is that of an address that stands alone, or first.
func (r *Run) meets(a *api.Addr) bool {
	switch a.Kind {
	case api.AddrLast:
		return r.world.Last()
	case api.AddrRegex:
		return r.finds(&a.Regex)
	}
	beyond := r.world.Number() - a.N
	if a.Step == 0 {
		return beyond == 0
	}
	return beyond >= 0 && beyond%a.Step == 0
}

// opened is the range that begins at a line, by its second address.
func (r *Run) opened(a *api.Addr) stretch {
	line := r.world.Number()
	switch a.Kind {
	case api.AddrLast:
		return stretch{open: !r.world.Last()}
	case api.AddrRegex:
		return stretch{open: true}
	case api.AddrPlus:
		return stretch{a.N > 0, line + a.N}
	case api.AddrMultiple:
		if a.N == 0 || line%a.N == 0 {
			return stretch{}
		}
		return stretch{true, line + a.N - line%a.N}
	}
	return stretch{a.N > line, a.N}
}

// within tells whether a line lies in a range that is open, by its second address, and closes it where it ends.
func (r *Run) within(a *api.Addr, here *stretch) bool {
	switch a.Kind {
	case api.AddrLast:
		here.open = !r.world.Last()
		return true
	case api.AddrRegex:
		here.open = !r.finds(&a.Regex)
		return true
	}
	line := r.world.Number()
	here.open = line < here.to
	return line <= here.to
}

// finds tells whether an expression matches in the pattern space.
func (r *Run) finds(x *api.Regex) bool {
	x = r.named(x)
	if x == nil {
		return false
	}
	_, found := r.look(x, r.space.Pattern(), 0)
	return found
}

// named is the expression that one stands for, which is looked for now; nil: it is Last, and none was looked for.
func (r *Run) named(x *api.Regex) *api.Regex {
	if !x.Last {
		r.last = x
	}
	return r.last
}
