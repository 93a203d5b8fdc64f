package debug_test

import (
	"strconv"

	"paddock/api"
	"paddock/lines"
	"paddock/marsh"
)

// A second reading of the chapter's words, over a course that was read ahead.

// plain is a debugger that has all moments in front of it.
type plain struct {
	course marsh.Course
	at     int
	breaks []bool
}

func (d *plain) now() api.Moment { return d.course.At(d.at) }

// goes goes on step by step.
func (d *plain) goes(most int) api.Moment {
	for range most {
		if d.now().Over {
			break
		}
		d.at++
		if m := d.now(); !m.Over && d.breaks[m.Next] {
			break
		}
	}
	return d.now()
}

func (d *plain) back(steps int) api.Moment {
	d.at -= steps
	return d.now()
}

// unbounded is a quota that nothing comes to.
func unbounded() api.Quota {
	const most = 1<<63 - 1
	return api.Quota{Fuel: most, Memory: most, Output: most, Each: most}
}

func (d *plain) effects() []api.Effect { return d.course.Meaning(d.at, unbounded()).Effects }

// said is what Say says.
func said(p api.Program, m api.Moment) string {
	n := strconv.Itoa
	out := "step " + n(m.Next)
	for i, s := range p.Steps {
		if i == m.Next {
			out += " " + lines.Quote(string([]byte{s.Command.Name}))
		}
	}
	out += "\nline " + n(m.Line) + "\npattern " + lines.Quote(m.Pattern) + "\nhold " + lines.Quote(m.Hold) + "\nqueue " + n(len(m.Queue)) + "\ndone " + n(m.Done) + "\n"
	if m.Over {
		out += "over " + n(int(m.Stop)) + " " + n(m.Code) + "\n"
	}
	return out
}

// showEffects tells all of some effects.
func showEffects(l []api.Effect) string { return marsh.Show(api.Meaning{Effects: l}) }

func quoted(s string) string { return lines.Quote(s) }
