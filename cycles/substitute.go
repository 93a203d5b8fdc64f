package cycles

import (
	"iter"
	"strings"

	"paddock/api"
	"paddock/subst"
)

// substitute does s. The matches are looked for one by one, as each look is asked for ahead of it.
func (r *Run) substitute(c *api.Command) onward {
	x := r.named(&c.Regex)
	if x == nil {
		return further
	}
	e, replaced := r.edited(&c.Subst, x)
	if !replaced {
		return further
	}
	if e.isLong {
		giveUp(api.StopMemory, codeSpent, api.OK)
	}
	r.held(r.space.Set(e.out.String()))
	r.made = true
	if c.Subst.Exec {
		return r.exec(r.space.Pattern())
	}
	if c.Subst.Print {
		r.print(r.out())
	}
	if c.Subst.File != "" {
		r.print(fileOf(c.Subst.File))
	}
	return further
}

// edited is the pattern space with its matches replaced; false: there is none that is.
func (r *Run) edited(s *api.Subst, x *api.Regex) (*edit, bool) {
	e := &edit{text: r.space.Pattern(), room: r.Memory}
	number, replaced := 0, false
	for m := range r.matches(x, e.text) {
		if number++; number < s.Number {
			continue
		}
		replaced = true
		e.replace(m, s.Pieces)
		if !s.Global {
			break
		}
	}
	if replaced {
		e.add(e.text[e.at:])
	}
	return e, replaced
}

// matches yields those of an expression in a text that are taken, as posix.All has them, with what their groups keep.
func (r *Run) matches(x *api.Regex, text string) iter.Seq[[]api.Span] {
	if x.Fold {
		x, text = &api.Regex{Root: folded(x.Root)}, small(text)
	}
	return func(yield func([]api.Span) bool) {
		end := -1 // of the last one that was taken
		for at := 0; at <= len(text); {
			m, found := r.look(x, text, at)
			if !found {
				return
			}
			empty := m[0].From == m[0].To
			if !empty || m[0].From != end {
				end = m[0].To
				if !yield(m) {
					return
				}
			}
			at = m[0].To
			if empty {
				at++
			}
		}
	}
}

// folded is an expression that matches in texts in lower case what it would in either case. Where a text is gone through by many looks it is folded once, as else each of them would fold all of it.
func folded(n api.Node) api.Node {
	const (
		word  = 'A' / 64 // of a set: it has all letters
		big   = (1<<26 - 1) << ('A' % 64)
		above = 'a' - 'A'
	)
	var kids []api.Node
	for _, k := range n.Kids {
		kids = append(kids, folded(k))
	}
	n.Kids = kids
	n.Set[word] |= n.Set[word] & big << above
	return n
}

func small(text string) string {
	return subst.Table("ABCDEFGHIJKLMNOPQRSTUVWXYZ", "abcdefghijklmnopqrstuvwxyz", text)
}

// edit is a text in which matches are replaced, from the left on. Bytes for which there is no room are not put together: it is known only that there are too many.
type edit struct {
	text   string
	at     int // how much of it is gone through
	out    strings.Builder
	room   int
	isLong bool
}

func (e *edit) add(s string) {
	if e.isLong = e.isLong || len(s) > e.room-e.out.Len(); !e.isLong {
		e.out.WriteString(s)
	}
}

// replace puts what pieces say of a match in its place.
func (e *edit) replace(m []api.Span, l []api.Piece) {
	e.add(e.text[e.at:m[0].From])
	e.at = m[0].To
	if e.isLong {
		return
	}
	said, why := subst.Expand(l, e.text, m)
	e.isLong = why == api.ErrLong
	e.add(said)
}
