package cycles

import (
	"strconv"

	"paddock/api"
	"paddock/lines"
	"paddock/space"
	"paddock/subst"
)

// command does a command that is selected, and tells how one goes on.
type command func(*Run, *api.Command) onward

// commands has what each letter does.
func commands() map[byte]command {
	return map[byte]command{
		'{': does(func(*Run, *api.Command) {}),
		'=': writes(func(r *Run, _ *api.Command) string { return strconv.Itoa(r.world.Number()) + lf }),
		'F': writes(func(r *Run, _ *api.Command) string { return r.world.Name() + lf }),
		'i': writes(func(_ *Run, c *api.Command) string { return c.Text }),
		'l': writes(listed),
		'a': queues(api.ItemText),
		'r': queues(api.ItemFile),
		'R': queues(api.ItemLine),
		'g': holds((*space.Space).Get),
		'G': holds((*space.Space).GetMore),
		'h': holds((*space.Space).Put),
		'H': holds((*space.Space).PutMore),
		'x': holds((*space.Space).Swap),
		'z': holds(empty),
		'y': does(func(r *Run, c *api.Command) { r.held(r.space.Set(subst.Table(c.Text, c.Other, r.space.Pattern()))) }),
		'p': does(func(r *Run, _ *api.Command) { r.print(r.out()) }),
		'w': does(func(r *Run, c *api.Command) { r.print(fileOf(c.Text)) }),
		'P': does(func(r *Run, _ *api.Command) { r.printFirst(r.out()) }),
		'W': does(func(r *Run, c *api.Command) { r.printFirst(fileOf(c.Text)) }),
		's': (*Run).substitute,
		'c': (*Run).change,
		'd': func(r *Run, _ *api.Command) onward { return r.drop() },
		'D': func(r *Run, _ *api.Command) onward { return r.dropFirst() },
		'n': takes(func(r *Run) bool { r.printUnlessQuiet(); return r.take(r.space.Set) }),
		'N': takes(func(r *Run) bool { return r.take(r.space.Join) }),
		'b': func(*Run, *api.Command) onward { return away },
		't': jumps(true),
		'T': jumps(false),
		'q': quits(quitting),
		'Q': quits(over),
		'e': func(r *Run, c *api.Command) onward { return r.exec(c.Text) },
	}
}

// does is a command behind which the next step comes.
func does(do func(*Run, *api.Command)) command {
	return func(r *Run, c *api.Command) onward {
		do(r, c)
		return further
	}
}

func writes(text func(*Run, *api.Command) string) command {
	return does(func(r *Run, c *api.Command) { r.write(r.out(), text(r, c)) })
}

func queues(kind api.ItemKind) command {
	return does(func(r *Run, c *api.Command) { r.held(r.space.Push(api.Item{Kind: kind, Text: c.Text})) })
}

func holds(call func(*space.Space) api.Errno) command {
	return does(func(r *Run, _ *api.Command) { r.held(call(r.space)) })
}

func empty(s *space.Space) api.Errno { return s.Set("") }

// takes is a command that takes a line, if there is one left.
func takes(take func(*Run) bool) command {
	return func(r *Run, _ *api.Command) onward {
		if r.world.Last() {
			return printed
		}
		if !take(r) {
			return over
		}
		return further
	}
}

// jumps is a command that goes on with To, if a substitution has been made, or if none has; none has from then on.
func jumps(made bool) command {
	return func(r *Run, _ *api.Command) onward {
		was := r.made
		r.made = false
		if was == made {
			return away
		}
		return further
	}
}

func quits(how onward) command {
	return func(r *Run, c *api.Command) onward {
		r.end = ending{stop: api.StopQuit, code: max(c.N, 0)}
		return how
	}
}

// exec asks for a command to be run, whatever the answer.
func (r *Run) exec(command string) onward {
	r.world.Exec(command)
	r.end = ending{stop: api.StopExec, code: codeDenied}
	return over
}

// listed is what l writes.
func listed(r *Run, c *api.Command) string {
	const usual = 70
	width := c.N
	if width < 0 {
		width = usual
	}
	text, _ := lines.List(r.space.Pattern(), width)
	return text
}

// printFirst prints the pattern space, or writes its first line, if it has several.
func (r *Run) printFirst(to place) {
	if line, more := r.space.First(); more {
		r.write(to, line+lf)
		return
	}
	r.print(to)
}

// change writes a text in the place of the lines: of a range at its end alone.
func (r *Run) change(c *api.Command) onward {
	if c.Second.Kind == api.AddrNone || c.Not || !r.ranges[r.next].open {
		r.write(r.out(), c.Text)
	}
	return r.drop()
}

func (r *Run) drop() onward {
	r.held(empty(r.space))
	return silent
}

func (r *Run) dropFirst() onward {
	if _, more := r.space.First(); !more {
		return r.drop()
	}
	_, why := r.space.Drop()
	r.held(why)
	return again
}
